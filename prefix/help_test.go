package prefix_test

import (
	"math"
	"math/big"
	"slices"
	"strings"
	"testing"

	"tintype/api"
	"tintype/bits"
	"tintype/prefix"
)

const (
	maxLen  = 16
	maxSyms = 256
)

// dice gives numbers from 0 to below n that look like chance and are the same each time.
func dice() func(n int) int {
	state := uint64(1)
	return func(n int) int {
		state = state*6364136223846793005 + 1442695040888963407
		return int(state >> 33 % uint64(n))
	}
}

// oneEach is a specification with one code of each of the first n lengths, for the symbols from 0 on.
func oneEach(n int) api.Huff {
	h := api.Huff{Syms: upTo(n)}
	for i := range n {
		h.Count[i] = 1
	}
	return h
}

// allOf is a specification with n codes of one length, for the symbols from 0 on.
func allOf(n, length int) api.Huff {
	h := api.Huff{Syms: upTo(n)}
	h.Count[length-1] = n
	return h
}

// upTo are the symbols from 0 to below n.
func upTo(n int) []int {
	syms := make([]int, n)
	for i := range syms {
		syms[i] = i
	}
	return syms
}

// with is h with n codes of one length more or, if n is negative, fewer, but the same symbols.
func with(h api.Huff, length, n int) api.Huff {
	h.Count[length-1] += n
	return h
}

// named is h with these symbols.
func named(h api.Huff, syms ...int) api.Huff {
	h.Syms = syms
	return h
}

// nearlyFull are codes whose sum is 2^16 - 1, 136 in all: one more of 16 bits makes it 2^16.
func nearlyFull() api.Huff {
	h := api.Huff{Syms: upTo(136)}
	h.Count[6] = 127
	for i := 7; i < maxLen; i++ {
		h.Count[i] = 1
	}
	return h
}

// valids are valid specifications of all kinds.
func valids() []api.Huff {
	reversed := allOf(maxSyms, 16)
	slices.Reverse(reversed.Syms)
	all := []api.Huff{
		{Count: [16]int{0, 1, 2}, Syms: []int{5, 1, 9}},
		{Count: [16]int{1, 1}, Syms: []int{0, 1}},
		{Count: [16]int{1, 1}, Syms: []int{255, 0}},
		{Count: [16]int{0, 3}, Syms: []int{200, 100, 0}},
		{Count: [16]int{0, 0, 1, 0, 0, 2, 0, 0, 0, 3}, Syms: []int{7, 6, 5, 4, 3, 2}},
		{Count: [16]int{1, 0, 0, 0, 0, 0, 0, 0, 0, 0, 0, 0, 0, 0, 0, 1}, Syms: []int{3, 4}},
		{Count: [16]int{0, 2, 1, 3, 3, 2, 4, 3, 5, 5, 4, 4, 0, 0, 1, 125}, Syms: upTo(162)},
		reversed, allOf(maxSyms, 16), allOf(maxSyms, 9), allOf(255, 8), nearlyFull(),
	}
	for n := range maxLen {
		all = append(all, oneEach(n+1), named(allOf(1, n+1), 255-n))
	}
	return all
}

// wrongs are specifications that are not valid, by what is wrong with them.
func wrongs() map[string]api.Huff {
	twice := nearlyFull()
	twice.Syms[0] = 135
	many := api.Huff{Syms: make([]int, 16*maxSyms)}
	for i := range many.Count {
		many.Count[i] = maxSyms
	}
	return map[string]api.Huff{
		"nothing":                       {},
		"empty symbols":                 {Syms: []int{}},
		"no codes":                      {Syms: []int{0}},
		"no symbols":                    {Count: [16]int{1}},
		"a sum of 2^16 of 1 bit":        allOf(2, 1),
		"a sum of 2^16 of 2 bits":       allOf(4, 2),
		"a sum of 2^16 of 8 bits":       allOf(256, 8),
		"a sum of 2^16 of all lengths":  with(named(oneEach(16), upTo(17)...), 16, 1),
		"a sum of 2^16 of many":         with(named(nearlyFull(), upTo(137)...), 16, 1),
		"a sum of 2^16 + 1":             with(named(nearlyFull(), upTo(138)...), 16, 2),
		"a sum above 2^16":              allOf(3, 1),
		"a sum far above 2^16":          allOf(256, 1),
		"all counts 256":                many,
		"a count of 257":                allOf(257, 16),
		"257 codes, 256 symbols":        with(allOf(256, 16), 16, 1),
		"257 codes of two lengths":      with(named(allOf(256, 16), upTo(257)...), 10, 1),
		"a count of -1":                 with(named(allOf(1, 1), 4), 1, -2),
		"-1 and 2 for one symbol":       {Count: [16]int{-1, 2}, Syms: []int{4}},
		"2 and -1 for one symbol":       {Count: [16]int{0, 2, -1}, Syms: []int{4}},
		"-1 and 1 for none":             {Count: [16]int{0, -1, 1}},
		"-1 makes room":                 {Count: [16]int{2, -1}, Syms: []int{4}},
		"the least count":               with(allOf(1, 1), 16, math.MinInt),
		"two least counts":              with(with(allOf(1, 1), 16, math.MinInt), 15, math.MinInt),
		"the greatest count":            {Count: [16]int{0, 0, math.MaxInt}, Syms: []int{1}},
		"a count beyond what is summed": {Count: [16]int{1, 1 << 62, 1 << 62, 1 << 62, 1 << 62}, Syms: []int{1}},
		"a count that is shifted away":  {Count: [16]int{1 << 50, 1 << 51}, Syms: []int{1}},
		"a symbol of -1":                named(allOf(1, 1), -1),
		"a symbol of -1 behind":         named(allOf(2, 2), 0, -1),
		"a symbol of 256":               named(allOf(1, 1), 256),
		"a symbol of 256 behind":        named(allOf(2, 2), 255, 256),
		"the least symbol":              named(allOf(1, 1), math.MinInt),
		"the greatest symbol":           named(allOf(1, 1), math.MaxInt),
		"a symbol of 2^32":              named(allOf(1, 1), 1<<32),
		"a symbol twice":                named(allOf(2, 2), 7, 7),
		"0 twice":                       named(allOf(2, 2), 0, 0),
		"255 twice":                     named(allOf(3, 2), 255, 1, 255),
		"a symbol twice, far apart":     twice,
		"of two lengths, twice":         named(oneEach(2), 4, 4),
		"a symbol too many":             named(allOf(2, 2), 1, 2, 3),
		"a symbol too few":              named(allOf(2, 2), 1),
		"many symbols too many":         {Count: [16]int{1}, Syms: upTo(256)},
	}
}

// isValid says of h what the chapter asks, in exact fractions.
func isValid(h api.Huff) bool {
	codes, filled := new(big.Int), new(big.Rat)
	for i, n := range h.Count {
		if n < 0 || n > 256 {
			return false
		}
		codes.Add(codes, big.NewInt(int64(n)))
		filled.Add(filled, big.NewRat(int64(n), int64(2)<<i))
	}
	symbols := map[int]bool{}
	for _, s := range h.Syms {
		symbols[s] = true
		if s < 0 || s > 255 {
			return false
		}
	}
	return len(symbols) == len(h.Syms) && len(h.Syms) > 0 && codes.Cmp(big.NewInt(int64(len(h.Syms)))) == 0 && filled.Cmp(big.NewRat(1, 1)) < 0
}

// texts are the codes of a valid h as texts of 0 and 1, made as the chapter says: the one before plus 1, then 0 bits.
func texts(h api.Huff) []string {
	var all []string
	text := ""
	for i, n := range h.Count {
		for range n {
			if text != "" {
				text = next(text)
			}
			text += strings.Repeat("0", i+1-len(text))
			all = append(all, text)
		}
	}
	return all
}

// next is the text of a number, plus 1, as long as it is; it may not be 1s only.
func next(text string) string {
	last := strings.LastIndex(text, "0")
	return text[:last] + "1" + strings.Repeat("0", len(text)-last-1)
}

// text is a code as a text of 0 and 1.
func text(c api.Bits) string {
	var b []byte
	for i := range c.N {
		b = append(b, '0'+byte(c.V>>i&1))
	}
	slices.Reverse(b)
	return string(b)
}

// asBits is the code with a text of 0 and 1.
func asBits(text string) api.Bits {
	c := api.Bits{N: len(text)}
	for _, b := range text {
		c.V = 2*c.V + int(b-'0')
	}
	return c
}

// writer has the bits of a text.
func writer(text string) *bits.Writer {
	var w bits.Writer
	for _, b := range text {
		w.Put(int(b-'0'), 1)
	}
	return &w
}

// reader has the bits of a text left, whose number need not be one of whole bytes.
func reader(text string) *bits.Reader {
	ahead := (8 - len(text)%8) % 8
	r := bits.New(writer(strings.Repeat("1", ahead) + text).Done())
	r.Take(ahead)
	return r
}

// leaves checks that r has the bits of text left, and uses them up.
func leaves(t *testing.T, r *bits.Reader, text string) {
	t.Helper()
	if n := r.Left(); n != len(text) {
		t.Fatalf("%d bits are left, not %d", n, len(text))
	}
	for i, b := range text {
		if v, ok := r.Take(1); v != int(b-'0') || !ok {
			t.Fatalf("bit %d of %s is %d, %v", i, text, v, ok)
		}
	}
}

// tableOf is the Table of a valid h.
func tableOf(t *testing.T, h api.Huff) *prefix.Table {
	t.Helper()
	table, err := prefix.New(h)
	if table == nil || err != api.OK {
		t.Fatalf("New(%v): %v", h, err)
	}
	return table
}

// built is the specification built for counts.
func built(t *testing.T, counts []int) api.Huff {
	t.Helper()
	h, err := prefix.Build(counts)
	if err != api.OK {
		t.Fatalf("Build(%v): %v", counts, err)
	}
	return h
}

// same reports whether two specifications are the same.
func same(a, b api.Huff) bool {
	return a.Count == b.Count && slices.Equal(a.Syms, b.Syms)
}

// spared is a with spare capacity behind it, and the whole of both.
func spared(a []int) (part, whole []int) {
	whole = append(slices.Clone(a), 3, -1, 300, 4, 5, 6, 7, 8)
	return whole[:len(a)], whole
}

// flip changes every number of a, and what capacity it has behind it.
func flip(a []int) {
	for i := range a[:cap(a)] {
		a[:cap(a)][i] ^= 0x5a
	}
}
