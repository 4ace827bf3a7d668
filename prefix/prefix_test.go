package prefix_test

import (
	"bytes"
	"math"
	"slices"
	"strings"
	"testing"

	"tintype/api"
	"tintype/bits"
	"tintype/prefix"
)

// P4.1

func TestMayValid(t *testing.T) {
	for _, h := range valids() {
		if !prefix.May(h) || !isValid(h) {
			t.Errorf("%v is valid", h)
		}
	}
}

func TestMayWrong(t *testing.T) {
	for what, h := range wrongs() {
		if prefix.May(h) || isValid(h) {
			t.Errorf("%s: %v is not valid", what, h)
		}
		if c := prefix.Codes(h); c != nil {
			t.Errorf("%s: Codes %v", what, c)
		}
	}
}

// TestMayAllSmall looks at all counts from -1 to 3 of codes of 1 to 3 and of 16 bits, with 0 to 6 symbols.
func TestMayAllSmall(t *testing.T) {
	for a := -1; a <= 3; a++ {
		for b := -1; b <= 3; b++ {
			for c := -1; c <= 4; c++ {
				for d := -1; d <= 3; d++ {
					for n := range 7 {
						looksLike(t, api.Huff{Count: [16]int{0: a, 1: b, 2: c, 15: d}, Syms: upTo(n)})
					}
				}
			}
		}
	}
}

// TestMayFills adds codes of chance lengths till there is no room: it must be told to the last one.
func TestMayFills(t *testing.T) {
	roll := dice()
	for range 50 {
		h := api.Huff{}
		for shortest := roll(10); len(h.Syms) < 270; {
			h.Count[shortest+roll(maxLen-shortest)]++
			h.Syms = append(h.Syms, 255-len(h.Syms))
			looksLike(t, h)
			if !isValid(h) {
				break
			}
		}
	}
}

// looksLike checks May and Codes of any h.
func looksLike(t *testing.T, h api.Huff) {
	t.Helper()
	if got, want := prefix.May(h), isValid(h); got != want {
		t.Fatalf("May(%v) = %v", h, got)
	}
	var want []string
	if isValid(h) {
		want = texts(h)
	}
	var got []string
	for _, c := range prefix.Codes(h) {
		got = append(got, text(c))
	}
	if !slices.Equal(got, want) {
		t.Fatalf("Codes(%v) = %v, not %v", h, got, want)
	}
}

// TestCodes: as the chapter says them one after the other; none begins another, none has 1 bits only.
func TestCodes(t *testing.T) {
	for _, h := range valids() {
		codes := prefix.Codes(h)
		want := texts(h)
		if len(codes) != len(want) {
			t.Fatalf("%v: %d codes", h, len(codes))
		}
		for i, c := range codes {
			if c != asBits(want[i]) {
				t.Fatalf("%v: code %d is %v, not %s", h, i, c, want[i])
			}
			if !strings.Contains(text(c), "0") {
				t.Fatalf("%v: code %d is %s", h, i, text(c))
			}
			for j, d := range codes {
				if i != j && strings.HasPrefix(text(d), text(c)) {
					t.Fatalf("%v: %s begins %s", h, text(c), text(d))
				}
			}
		}
	}
}

func TestCodesExamples(t *testing.T) {
	for _, c := range []struct {
		h    api.Huff
		want string
	}{
		{api.Huff{Count: [16]int{0, 1, 2}, Syms: []int{5, 1, 9}}, "00 010 011"},
		{api.Huff{Count: [16]int{1}, Syms: []int{8}}, "0"},
		{api.Huff{Count: [16]int{1, 1}, Syms: []int{8, 9}}, "0 10"},
		{api.Huff{Count: [16]int{0, 3}, Syms: []int{8, 9, 0}}, "00 01 10"},
		{api.Huff{Count: [16]int{1, 0, 0, 2}, Syms: []int{2, 1, 0}}, "0 1000 1001"},
		{api.Huff{Count: [16]int{0, 0, 0, 1}, Syms: []int{2}}, "0000"},
		{api.Huff{Count: [16]int{15: 2}, Syms: []int{2, 3}}, "0000000000000000 0000000000000001"},
		{oneEach(16), "0 10 110 1110 11110 111110 1111110 11111110 111111110 1111111110 11111111110 111111111110 1111111111110 11111111111110 111111111111110 1111111111111110"},
		// The codes of the first numbers of luminance that T.81 gives in Table K.3.
		{api.Huff{Count: [16]int{0, 1, 5, 1, 1, 1, 1, 1, 1}, Syms: upTo(12)}, "00 010 011 100 101 110 1110 11110 111110 1111110 11111110 111111110"},
	} {
		var got []string
		for _, b := range prefix.Codes(c.h) {
			got = append(got, text(b))
		}
		if strings.Join(got, " ") != c.want {
			t.Errorf("%v: %v", c.h, got)
		}
	}
}

// P4.2

func TestNewAndCode(t *testing.T) {
	for _, h := range valids() {
		table := tableOf(t, h)
		codes := texts(h)
		for sym := -2; sym < 300; sym++ {
			got, ok := table.Code(sym)
			at := slices.Index(h.Syms, sym)
			if ok != (at >= 0) || at < 0 && got != (api.Bits{}) || at >= 0 && got != asBits(codes[at]) {
				t.Fatalf("%v: Code(%d) = %v, %v", h, sym, got, ok)
			}
		}
	}
}

// strange are no symbols; the lowest bits of some would be.
var strange = []int{-1, -2, -256, -255, 256, 257, 300, 1 << 16, 1 << 32, 1<<32 + 5, -1 << 32, math.MaxInt, math.MinInt, math.MinInt + 5}

func TestCodeOfNone(t *testing.T) {
	full, some := tableOf(t, allOf(256, 16)), tableOf(t, named(allOf(3, 2), 5, 0, 255))
	for _, sym := range strange {
		for _, table := range []*prefix.Table{full, some} {
			if c, ok := table.Code(sym); c != (api.Bits{}) || ok {
				t.Errorf("Code(%d) = %v, %v", sym, c, ok)
			}
			var w bits.Writer
			if table.Put(&w, sym) || w.Len() != 0 {
				t.Errorf("%d is put, as %d bits", sym, w.Len())
			}
		}
	}
}

func TestNewWrong(t *testing.T) {
	for what, h := range wrongs() {
		if table, err := prefix.New(h); table != nil || err != api.ErrForm {
			t.Errorf("%s: %v, %v", what, table, err)
		}
	}
}

// P4.3

func TestPut(t *testing.T) {
	for _, h := range valids() {
		table := tableOf(t, h)
		for ahead := range 9 {
			for i, code := range texts(h) {
				if i%37 > 2 && len(h.Syms) > 40 {
					continue // of the long ones some are enough
				}
				before := strings.Repeat("01", ahead)[:ahead]
				w := writer(before)
				if !table.Put(w, h.Syms[i]) {
					t.Fatalf("%v: %d is not put", h, h.Syms[i])
				}
				if w.Len() != len(before+code) || !bytes.Equal(w.Done(), writer(before+code).Done()) {
					t.Fatalf("%v: %d behind %s: % x", h, h.Syms[i], before, w.Done())
				}
			}
		}
	}
}

func TestPutNothing(t *testing.T) {
	table := tableOf(t, api.Huff{Count: [16]int{0, 1, 2}, Syms: []int{5, 1, 9}})
	w := writer("1011")
	for sym := -3; sym < 300; sym++ {
		if slices.Contains([]int{5, 1, 9}, sym) {
			continue
		}
		if table.Put(w, sym) || w.Len() != 4 || !bytes.Equal(w.Done(), []byte{0xbf}) {
			t.Fatalf("%d is put: %d bits, % x", sym, w.Len(), w.Done())
		}
		if table.Put(nil, sym) {
			t.Fatalf("%d is put to nil", sym)
		}
	}
	for _, sym := range []int{5, 1, 9} {
		if table.Put(nil, sym) {
			t.Errorf("%d is put to nil", sym)
		}
	}
	if !table.Put(w, 9) || !bytes.Equal(w.Done(), []byte{0xb7}) {
		t.Errorf("% x", w.Done())
	}
}

// takes checks what a Table of h takes where the bits of a text are left.
func takes(t *testing.T, table *prefix.Table, h api.Huff, codes []string, text string) {
	t.Helper()
	want, long := 0, 0
	for i, code := range codes {
		if strings.HasPrefix(text, code) {
			want, long = h.Syms[i], len(code)
		}
	}
	r := reader(text)
	sym, ok := table.Take(r)
	if sym != want || ok != (long > 0) {
		t.Fatalf("%v: Take of %s: %d, %v", h, text, sym, ok)
	}
	leaves(t, r, text[long:])
}

// TestTakeShort takes from all texts of up to 9 bits: many match no code, many are too short for one.
func TestTakeShort(t *testing.T) {
	for _, h := range valids() {
		if len(h.Syms) > 20 {
			continue
		}
		table, codes := tableOf(t, h), texts(h)
		for n := range 10 {
			for v := range 1 << n {
				takes(t, table, h, codes, text(api.Bits{V: v, N: n}))
			}
		}
	}
}

// TestTakeLong takes from texts of 16 bits and more, and where the last bits of a code are missing.
func TestTakeLong(t *testing.T) {
	roll := dice()
	for _, h := range valids() {
		table, codes := tableOf(t, h), texts(h)
		for range 300 {
			takes(t, table, h, codes, text(api.Bits{V: roll(1 << 20), N: 16 + roll(5)}))
		}
		for i := 0; i < len(codes); i += 1 + roll(20) {
			takes(t, table, h, codes, codes[i])
			takes(t, table, h, codes, codes[i]+"1")
			takes(t, table, h, codes, codes[i]+"00000000000000000000")
			takes(t, table, h, codes, codes[i][:len(codes[i])-1])
			takes(t, table, h, codes, codes[i][:len(codes[i])/2])
		}
		takes(t, table, h, codes, strings.Repeat("1", 8))
		takes(t, table, h, codes, strings.Repeat("1", 16))
		takes(t, table, h, codes, strings.Repeat("1", 40))
		takes(t, table, h, codes, "")
	}
}

// TestTakeNothing: what no code matches stays, however often it is asked for, and other Tables may take it.
func TestTakeNothing(t *testing.T) {
	short := tableOf(t, api.Huff{Count: [16]int{0, 1, 2}, Syms: []int{5, 1, 9}})
	other := tableOf(t, api.Huff{Count: [16]int{0, 3}, Syms: []int{20, 30, 40}})
	r := reader("10010")
	for range 5 {
		if sym, ok := short.Take(r); sym != 0 || ok || r.Left() != 5 {
			t.Fatalf("%d, %v, %d", sym, ok, r.Left())
		}
	}
	if sym, ok := other.Take(r); sym != 40 || !ok || r.Left() != 3 {
		t.Fatalf("%d, %v, %d", sym, ok, r.Left())
	}
	if sym, ok := short.Take(r); sym != 1 || !ok || r.Left() != 0 {
		t.Fatalf("%d, %v, %d", sym, ok, r.Left())
	}
	for _, r := range []*bits.Reader{nil, {}, bits.New(nil), bits.New([]byte{0xff, 0xd9})} {
		if sym, ok := short.Take(r); sym != 0 || ok || r.Left() != 0 {
			t.Errorf("%d, %v, %d", sym, ok, r.Left())
		}
	}
}

// TestTakeStuffed takes codes that stuffing cuts in two.
func TestTakeStuffed(t *testing.T) {
	table := tableOf(t, oneEach(16))
	r := bits.New([]byte{0xff, 0, 0xfe, 0xff, 0, 0xdf, 0xff, 0xd9})
	for _, want := range []struct {
		sym  int
		ok   bool
		left int
	}{{15, true, 16}, {10, true, 5}, {0, false, 5}} {
		if sym, ok := table.Take(r); sym != want.sym || ok != want.ok || r.Left() != want.left {
			t.Errorf("%d, %v, %d; not %v", sym, ok, r.Left(), want)
		}
	}
}

// TestTableOfNone: a Table that is nil, or that New did not return, has no codes.
func TestTableOfNone(t *testing.T) {
	failed, _ := prefix.New(api.Huff{})
	var zero prefix.Table
	for i, table := range []*prefix.Table{nil, failed, &zero, new(prefix.Table), {}} {
		w, r := writer("011"), reader("0010110")
		for _, sym := range append(upTo(256), strange...) {
			if c, ok := table.Code(sym); c != (api.Bits{}) || ok {
				t.Errorf("%d: Code(%d) = %v, %v", i, sym, c, ok)
			}
			if table.Put(w, sym) || table.Put(nil, sym) {
				t.Errorf("%d: %d is put", i, sym)
			}
		}
		if w.Len() != 3 || !bytes.Equal(w.Done(), []byte{0x7f}) {
			t.Errorf("%d: % x", i, w.Done())
		}
		for _, from := range []*bits.Reader{r, nil, {}, bits.New(nil)} {
			if sym, ok := table.Take(from); sym != 0 || ok {
				t.Errorf("%d: %d, %v", i, sym, ok)
			}
		}
		leaves(t, r, "0010110")
	}
}

// P4.5

func TestArgumentsStay(t *testing.T) {
	all := valids()
	for _, h := range wrongs() {
		all = append(all, h)
	}
	for _, h := range all {
		part, whole := spared(h.Syms)
		before := slices.Clone(whole)
		h.Syms = part
		prefix.May(h)
		prefix.Codes(h)
		prefix.Cost(h, part)
		prefix.Cost(h, []int{1, 2, 3})
		prefix.Build(part)
		if table, err := prefix.New(h); err == api.OK {
			table.Put(writer(""), part[0])
			table.Take(reader("00000000000000000000"))
		}
		if !slices.Equal(whole, before) {
			t.Fatalf("%v has become %v", before, whole)
		}
	}
}

// TestTablesAreNew changes what New was given, and what was returned beside it: the Table must stay.
func TestTablesAreNew(t *testing.T) {
	for _, h := range valids() {
		want := texts(h)
		syms := slices.Clone(h.Syms)
		table := tableOf(t, h)
		codes, again := prefix.Codes(h), prefix.Codes(h)
		for i := range again {
			again[i] = api.Bits{V: -1, N: -1}
		}
		flip(h.Syms)
		for i, sym := range syms {
			if codes[i] != asBits(want[i]) {
				t.Fatalf("code %d is %v, not %s", i, codes[i], want[i])
			}
			if c, ok := table.Code(sym); c != asBits(want[i]) || !ok {
				t.Fatalf("Code(%d) = %v, %v", sym, c, ok)
			}
			if got, ok := table.Take(reader(want[i])); got != sym || !ok {
				t.Fatalf("Take of %s: %d, %v", want[i], got, ok)
			}
		}
	}
}

// TestTablesApart: Tables do not know of each other.
func TestTablesApart(t *testing.T) {
	first := tableOf(t, named(allOf(2, 2), 1, 2))
	second := tableOf(t, named(allOf(2, 3), 2, 3))
	for _, c := range []struct {
		table *prefix.Table
		sym   int
		want  string
	}{{first, 1, "00"}, {first, 2, "01"}, {first, 3, ""}, {second, 1, ""}, {second, 2, "000"}, {second, 3, "001"}} {
		if b, ok := c.table.Code(c.sym); text(b) != c.want || ok != (c.want != "") {
			t.Errorf("Code(%d) = %v, %v", c.sym, b, ok)
		}
	}
}

// P4.6

func TestRoundTrip(t *testing.T) {
	roll := dice()
	for _, h := range valids() {
		comesBack(t, h, h.Syms)
		for range 5 {
			var syms []int
			for range roll(200) {
				syms = append(syms, h.Syms[roll(len(h.Syms))])
			}
			comesBack(t, h, syms)
		}
	}
}

// TestRoundTripBuilt puts what chance gives, most of it of few symbols, in codes built for just that.
func TestRoundTripBuilt(t *testing.T) {
	roll := dice()
	for range 200 {
		counts := make([]int, maxSyms)
		var syms []int
		for range 1 + roll(400) {
			sym := roll(1 + roll(1+roll(maxSyms)))
			syms = append(syms, sym)
			counts[sym]++
		}
		h := built(t, counts)
		comesBack(t, h, syms)
		var w bits.Writer
		for table := tableOf(t, h); len(syms) > 0; syms = syms[1:] {
			table.Put(&w, syms[0])
		}
		if w.Len() != prefix.Cost(h, counts) {
			t.Fatalf("%d bits that cost %d", w.Len(), prefix.Cost(h, counts))
		}
	}
}

// comesBack puts symbols of h, with other bits between some of them, and takes them.
func comesBack(t *testing.T, h api.Huff, syms []int) {
	t.Helper()
	table := tableOf(t, h)
	var w bits.Writer
	for i, sym := range syms {
		if !table.Put(&w, sym) || !w.Put(i, i%5) {
			t.Fatalf("%v: %d is not put", h, sym)
		}
	}
	r := bits.New(w.Done())
	for i, want := range syms {
		if sym, ok := table.Take(r); sym != want || !ok {
			t.Fatalf("%v: %d comes back as %d, %v", h, want, sym, ok)
		}
		if v, ok := r.Take(i % 5); v != i%(1<<(i%5)) || !ok {
			t.Fatalf("%v: behind %d: %d, %v", h, want, v, ok)
		}
	}
	left := r.Left()
	if sym, ok := table.Take(r); !r.Filled() || sym != 0 || ok || r.Left() != left {
		t.Fatalf("%v: behind all: %d, %v, %d", h, sym, ok, r.Left())
	}
}
