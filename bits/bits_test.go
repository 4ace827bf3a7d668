package bits_test

import (
	"bytes"
	"math"
	"slices"
	"strconv"
	"strings"
	"testing"

	"tintype/bits"
)

const maxBits = 16

// values are numbers of which bits are put: what is above the lowest bits must not matter.
var values = []int{
	0, 1, 2, 3, 5, 0x55, 0x7f, 0x80, 0xaa, 0xfe, 0xff, 0x100, 0x1ff, 0x1234, 0x5555, 0x7fff, 0x8000, 0xaaaa, 0xff00, 0xfffe, 0xffff, 0x10000, 0x1ffff, 0xabcdef,
	1 << 31, 1<<32 - 1, 1 << 32, 0x123456789abcdef0, math.MaxInt - 1, math.MaxInt,
	-1, -2, -3, -128, -129, -255, -256, -257, -32767, -32768, -32769, -65535, -65536, -65537, -1 << 31, -1<<31 - 1, -1 << 32, math.MinInt + 1, math.MinInt,
}

// wrongs are numbers of bits that are neither put nor taken; the lowest bits of some would be.
var wrongs = []int{
	-1, -2, -8, -15, -16, -17, -255, -256, -1 << 8, -1<<8 + 3, -1<<16 + 3, -1 << 31, -1<<32 + 3, -1<<63 + 3, math.MinInt,
	17, 18, 24, 31, 32, 33, 63, 64, 65, 128, 255, 256, 256 + 3, 1<<16 + 3, 1 << 31, 1<<32 - 1, 1 << 32, 1<<32 + 3, math.MaxInt - 1, math.MaxInt,
}

// put is one call of Put.
type put struct{ v, n int }

// low is the text of the n lowest bits of v, in two's complement.
func low(v, n int) string {
	var text []byte
	for range n {
		text = append(text, '0'+byte(v&1))
		v >>= 1
	}
	slices.Reverse(text)
	return string(text)
}

// packed are the bytes of a text of bits, padded with 1s, without stuffing.
func packed(text string) []byte {
	for len(text)%8 != 0 {
		text += "1"
	}
	var b []byte
	for i := 0; i < len(text); i += 8 {
		c, err := strconv.ParseUint(text[i:i+8], 2, 8)
		if err != nil {
			panic(err)
		}
		b = append(b, byte(c))
	}
	return b
}

// stuffed is b with a 00 behind each FF.
func stuffed(b []byte) []byte {
	var s []byte
	for _, c := range b {
		s = append(s, c)
		if c == 0xff {
			s = append(s, 0)
		}
	}
	return s
}

// read goes through b up to the first FF that no 00 follows: it gives what is ahead of that, without stuffing, and whether that is all of b.
func read(b []byte) ([]byte, bool) {
	var plain []byte
	for len(b) > 0 {
		step := 1
		if b[0] == 0xff {
			if len(b) < 2 || b[1] != 0 {
				return plain, false
			}
			step = 2
		}
		plain = append(plain, b[0])
		b = b[step:]
	}
	return plain, true
}

// spelt is the text of the bits of b.
func spelt(b []byte) string {
	var text strings.Builder
	for _, c := range b {
		text.WriteString(low(int(c), 8))
	}
	return text.String()
}

// number is what a text of bits is as an unsigned number.
func number(text string) int {
	n := 0
	for _, c := range text {
		n = 2*n + int(c-'0')
	}
	return n
}

// strung are all strings of up to long bytes of these; each is new memory.
func strung(from []byte, long int) [][]byte {
	all := [][]byte{{}}
	level := all
	for range long {
		var longer [][]byte
		for _, b := range level {
			for _, c := range from {
				longer = append(longer, append(slices.Clone(b), c))
			}
		}
		all = append(all, longer...)
		level = longer
	}
	return all
}

// telling are bytes of which strings are made: those of stuffing, their neighbours, and those of markers.
var telling = []byte{0x00, 0x01, 0xd9, 0xfe, 0xff}

// dice gives numbers from 0 to below n that look like chance and are the same each time.
func dice() func(n int) int {
	state := uint64(1)
	return func(n int) int {
		state = state*6364136223846793005 + 1442695040888963407
		return int(state >> 33 % uint64(n))
	}
}

// holds checks that w has the bits of text.
func holds(t *testing.T, w *bits.Writer, text string) {
	t.Helper()
	if n := w.Len(); n != len(text) {
		t.Fatalf("%d bits, not %d", n, len(text))
	}
	if b, want := w.Done(), stuffed(packed(text)); !bytes.Equal(b, want) {
		t.Fatalf("% x, not % x", b, want)
	}
}

// leaves checks that r has the bits of text left.
func leaves(t *testing.T, r *bits.Reader, text string) {
	t.Helper()
	if n := r.Left(); n != len(text) {
		t.Fatalf("%d bits are left, not %d", n, len(text))
	}
	if got, want := r.Filled(), len(text) <= 7 && !strings.Contains(text, "0"); got != want {
		t.Fatalf("%q is left: Filled is %v", text, got)
	}
	if n := r.Left(); n != len(text) {
		t.Fatalf("%d bits are left after Filled, not %d", n, len(text))
	}
}

// P3.1

func TestStuffAndPlainStrings(t *testing.T) {
	for _, b := range strung(telling, 6) {
		if s := bits.Stuff(b); !bytes.Equal(s, stuffed(b)) {
			t.Fatalf("Stuff(% x) = % x", b, s)
		}
		want, whole := read(b)
		if !whole {
			want = nil
		}
		if p, ok := bits.Plain(b); ok != whole || !bytes.Equal(p, want) {
			t.Fatalf("Plain(% x) = % x, %v", b, p, ok)
		}
	}
}

func TestStuffAndPlainAllBytes(t *testing.T) {
	for c := range 256 {
		for d := range 256 {
			b := []byte{byte(c), byte(d)}
			if s := bits.Stuff(b); !bytes.Equal(s, stuffed(b)) {
				t.Fatalf("Stuff(% x) = % x", b, s)
			}
			want, whole := read(b)
			if !whole {
				want = nil
			}
			if p, ok := bits.Plain(b); ok != whole || !bytes.Equal(p, want) {
				t.Fatalf("Plain(% x) = % x, %v", b, p, ok)
			}
		}
	}
}

func TestStuffExamples(t *testing.T) {
	for _, c := range []struct{ b, want []byte }{
		{nil, nil}, {[]byte{}, nil}, {[]byte{0}, []byte{0}}, {[]byte{1, 2, 3}, []byte{1, 2, 3}},
		{[]byte{0xff}, []byte{0xff, 0}}, {[]byte{1, 0xff}, []byte{1, 0xff, 0}}, {[]byte{0xff, 1}, []byte{0xff, 0, 1}},
		{[]byte{0xff, 0}, []byte{0xff, 0, 0}}, {[]byte{0xff, 0xff}, []byte{0xff, 0, 0xff, 0}}, {[]byte{0xff, 0xd9}, []byte{0xff, 0, 0xd9}}, {[]byte{0xfe, 0xff, 0xfe}, []byte{0xfe, 0xff, 0, 0xfe}},
	} {
		if s := bits.Stuff(c.b); !bytes.Equal(s, c.want) {
			t.Errorf("Stuff(% x) = % x", c.b, s)
		}
	}
}

func TestPlainExamples(t *testing.T) {
	for _, c := range []struct {
		b, want []byte
		ok      bool
	}{
		{nil, nil, true}, {[]byte{}, nil, true}, {[]byte{0}, []byte{0}, true}, {[]byte{1, 2, 3}, []byte{1, 2, 3}, true},
		{[]byte{0xff, 0}, []byte{0xff}, true}, {[]byte{0xff, 0, 0}, []byte{0xff, 0}, true}, {[]byte{0, 0xff, 0, 0xff, 0, 1}, []byte{0, 0xff, 0xff, 1}, true}, {[]byte{0, 0}, []byte{0, 0}, true},
		{[]byte{0xff}, nil, false}, {[]byte{1, 2, 0xff}, nil, false}, {[]byte{0xff, 1}, nil, false}, {[]byte{0xff, 0xff}, nil, false}, {[]byte{0xff, 0xff, 0}, nil, false}, {[]byte{0xff, 0, 0xff}, nil, false},
		{[]byte{1, 0xff, 0xd9}, nil, false}, {[]byte{1, 0xff, 0xd0, 2}, nil, false}, {[]byte{0xff, 0, 1, 0xff, 1, 0xff, 0}, nil, false}, {[]byte{0xff, 0xfe}, nil, false},
	} {
		if p, ok := bits.Plain(c.b); !bytes.Equal(p, c.want) || ok != c.ok {
			t.Errorf("Plain(% x) = % x, %v", c.b, p, ok)
		}
	}
}

// P3.2

// TestPutAllCounts puts each value with each number of bits behind 0 to 15 bits that are there.
func TestPutAllCounts(t *testing.T) {
	for ahead := range maxBits {
		for _, first := range []int{0, -1, 0x2d6b} {
			for n := range maxBits + 1 {
				for _, v := range values {
					var w bits.Writer
					if !w.Put(first, ahead) || !w.Put(v, n) {
						t.Fatalf("%d bits of %d aren't put", n, v)
					}
					holds(t, &w, low(first, ahead)+low(v, n))
				}
			}
		}
	}
}

func TestPutWrongCounts(t *testing.T) {
	for used := range maxBits + 2 {
		var w bits.Writer
		text := ""
		for i := range used {
			w.Put(i, 1)
			text += low(i, 1)
		}
		for _, n := range wrongs {
			for _, v := range []int{0, 1, -1, 0xff, math.MinInt, math.MaxInt} {
				if w.Put(v, n) {
					t.Fatalf("%d bits of %d are put", n, v)
				}
			}
			holds(t, &w, text)
		}
		w.Put(0x2d, 6)
		holds(t, &w, text+"101101")
	}
}

func TestPutExamples(t *testing.T) {
	for _, c := range []struct {
		puts []put
		long int
		want []byte
	}{
		{nil, 0, nil}, {[]put{{0, 0}, {-1, 0}, {77, 0}}, 0, nil},
		{[]put{{5, 3}, {0, 0}, {1, 2}, {-1, 16}}, 21, []byte{0xaf, 0xff, 0, 0xff, 0}},
		{[]put{{0, 1}}, 1, []byte{0x7f}}, {[]put{{1, 1}}, 1, []byte{0xff, 0}}, {[]put{{0, 7}}, 7, []byte{0x01}}, {[]put{{0x7f, 7}}, 7, []byte{0xff, 0}},
		{[]put{{0, 8}}, 8, []byte{0}}, {[]put{{0xff, 8}}, 8, []byte{0xff, 0}}, {[]put{{0x12, 8}}, 8, []byte{0x12}}, {[]put{{0, 8}, {0, 0}}, 8, []byte{0}},
		{[]put{{0, 9}}, 9, []byte{0, 0x7f}}, {[]put{{0x1234, 16}}, 16, []byte{0x12, 0x34}}, {[]put{{0xff00, 16}}, 16, []byte{0xff, 0, 0}}, {[]put{{-2, 16}}, 16, []byte{0xff, 0, 0xfe}}, {[]put{{-32768, 16}}, 16, []byte{0x80, 0}},
		{[]put{{1, 4}, {2, 4}, {3, 4}, {4, 4}}, 16, []byte{0x12, 0x34}}, {[]put{{0x1ff, 8}, {0x100, 8}}, 16, []byte{0xff, 0, 0}},
		{[]put{{0x0f, 4}, {0x0f, 4}, {0, 8}}, 16, []byte{0xff, 0, 0}}, {[]put{{0, 4}, {0xff, 8}, {0, 4}}, 16, []byte{0x0f, 0xf0}},
	} {
		var w bits.Writer
		for _, p := range c.puts {
			if !w.Put(p.v, p.n) {
				t.Errorf("%v isn't put", p)
			}
		}
		if w.Len() != c.long || !bytes.Equal(w.Done(), c.want) {
			t.Errorf("%v: %d, % x", c.puts, w.Len(), w.Done())
		}
	}
}

// TestDoneBetween asks for the encoding twice after each Put: that must change nothing.
func TestDoneBetween(t *testing.T) {
	roll := dice()
	for range 300 {
		var asked, silent bits.Writer
		text := ""
		for range 20 {
			v, n := values[roll(len(values))], roll(maxBits+1)
			asked.Put(v, n)
			silent.Put(v, n)
			text += low(v, n)
			holds(t, &asked, text)
			holds(t, &asked, text)
		}
		holds(t, &silent, text)
	}
}

// TestPutMany puts so many bits that every step must be a short one.
func TestPutMany(t *testing.T) {
	var w bits.Writer
	for i := range 1 << 20 {
		if !w.Put(i, 5) {
			t.Fatal(i)
		}
	}
	r := bits.New(w.Done())
	if w.Len() != 5<<20 || r.Left() != 5<<20 {
		t.Fatal(w.Len(), r.Left())
	}
	for i := range 1 << 20 {
		if v, ok := r.Take(5); v != i%32 || !ok {
			t.Fatal(i, v, ok)
		}
	}
}

// P3.3

// TestTakeStrings takes each number of bits, again and again, from short strings.
func TestTakeStrings(t *testing.T) {
	for _, b := range strung(append([]byte{0x5a}, telling...), 4) {
		plain, _ := read(b)
		for n := 1; n <= maxBits; n++ {
			r := bits.New(b)
			text := spelt(plain)
			leaves(t, r, text)
			for ; len(text) >= n; text = text[n:] {
				if v, ok := r.Take(n); v != number(text[:n]) || !ok {
					t.Fatalf("Take(%d) of % x with %d bits left: %d, %v", n, b, len(text), v, ok)
				}
				leaves(t, r, text[n:])
			}
			for more := len(text) + 1; more <= maxBits; more++ {
				if v, ok := r.Take(more); v != 0 || ok {
					t.Fatalf("Take(%d) of % x with %d bits left: %d, %v", more, b, len(text), v, ok)
				}
			}
			leaves(t, r, text)
			if v, ok := r.Take(len(text) % n); v != number(text) || !ok {
				t.Fatalf("the last %d bits of % x: %d, %v", len(text), b, v, ok)
			}
			leaves(t, r, "")
		}
	}
}

func TestTakeMixed(t *testing.T) {
	roll := dice()
	for range 500 {
		b := make([]byte, roll(30))
		for i := range b {
			b[i] = byte(roll(256))
			if roll(4) == 0 {
				b[i] = 0xff
			}
		}
		r := bits.New(stuffed(b))
		for text := spelt(b); ; {
			n := roll(maxBits + 1)
			v, ok := r.Take(n)
			if n > len(text) {
				if v != 0 || ok {
					t.Fatalf("Take(%d) with %d left: %d, %v", n, len(text), v, ok)
				}
				leaves(t, r, text)
				break
			}
			if v != number(text[:n]) || !ok {
				t.Fatalf("Take(%d) of %q: %d, %v", n, text, v, ok)
			}
			text = text[n:]
			leaves(t, r, text)
		}
	}
}

func TestTakeWrongCounts(t *testing.T) {
	for used := range 10 {
		r := bits.New([]byte{0xa5, 0xff, 0, 0x3c, 0x96, 0x0f})
		text := spelt([]byte{0xa5, 0xff, 0x3c, 0x96, 0x0f})[used:]
		r.Take(used)
		for _, n := range wrongs {
			if v, ok := r.Take(n); v != 0 || ok {
				t.Fatalf("Take(%d) = %d, %v", n, v, ok)
			}
			leaves(t, r, text)
		}
		if v, ok := r.Take(16); v != number(text[:16]) || !ok {
			t.Fatal(v, ok)
		}
	}
}

func TestTakeExamples(t *testing.T) {
	r := bits.New([]byte{0xaf, 0xff, 0, 0xff, 0xd9})
	for _, c := range []struct {
		n, v int
		ok   bool
		left int
	}{{0, 0, true, 16}, {4, 10, true, 12}, {4, 15, true, 8}, {16, 0, false, 8}, {9, 0, false, 8}, {0, 0, true, 8}, {8, 255, true, 0}, {1, 0, false, 0}, {16, 0, false, 0}, {0, 0, true, 0}} {
		if v, ok := r.Take(c.n); v != c.v || ok != c.ok || r.Left() != c.left {
			t.Errorf("Take(%d) = %d, %v; %d left", c.n, v, ok, r.Left())
		}
	}
}

// TestNewPrefix looks at what follows the first FF without a 00: it is not read.
func TestNewPrefix(t *testing.T) {
	for _, c := range []struct {
		b    []byte
		left int
	}{
		{nil, 0}, {[]byte{}, 0}, {[]byte{7}, 8}, {[]byte{0xff}, 0}, {[]byte{0xff, 0}, 8}, {[]byte{0xff, 1}, 0}, {[]byte{0xff, 0xff, 0}, 0}, {[]byte{0xff, 0, 0}, 16},
		{[]byte{1, 2, 3, 0xff}, 24}, {[]byte{1, 2, 3, 0xff, 0}, 32}, {[]byte{1, 0xff, 0xd9, 2, 3}, 8}, {[]byte{1, 0xff, 0xd0, 0xff, 0, 3}, 8}, {[]byte{0xff, 0, 0xff, 0, 0xff, 0xd8, 1}, 16},
	} {
		if n := bits.New(c.b).Left(); n != c.left {
			t.Errorf("%d bits are left of % x", n, c.b)
		}
	}
}

// P3.4

// TestFilledEnds looks at every end of two bytes: each number of bits left, of each value.
func TestFilledEnds(t *testing.T) {
	for c := range 1 << 16 {
		b := []byte{byte(c >> 8), byte(c)}
		for left := range 17 {
			r := bits.New(stuffed(b))
			r.Take(16 - left)
			want := left <= 7 && c&(1<<left-1) == 1<<left-1
			if got := r.Filled(); got != want || r.Left() != left {
				t.Fatalf("the last %d bits of % x: %v, %d left", left, b, got, r.Left())
			}
		}
	}
}

func TestFilledExamples(t *testing.T) {
	for _, c := range []struct {
		b    []byte
		used int
		want bool
	}{
		{nil, 0, true}, {[]byte{0xff}, 0, true}, {[]byte{0xff, 0xd9}, 0, true}, {[]byte{0xff, 0}, 0, false}, {[]byte{0xff, 0}, 1, true}, {[]byte{0xff, 0}, 8, true}, {[]byte{0x7f}, 0, false}, {[]byte{0x7f}, 1, true},
		{[]byte{0xbf}, 1, false}, {[]byte{0xbf}, 2, true}, {[]byte{0xfe}, 7, false}, {[]byte{0xfe}, 8, true}, {[]byte{0xff, 0, 0xff, 0}, 8, false}, {[]byte{0xff, 0, 0xff, 0}, 9, true}, {[]byte{0, 0xff, 0}, 15, true}, {[]byte{0xff, 0, 0}, 15, false},
	} {
		r := bits.New(c.b)
		r.Take(c.used)
		if got := r.Filled(); got != c.want {
			t.Errorf("% x after %d bits: %v", c.b, c.used, got)
		}
	}
}

// P3.5

func TestNil(t *testing.T) {
	var w *bits.Writer
	for _, n := range append([]int{0, 1, 8, 16}, wrongs...) {
		if w.Put(1, n) {
			t.Errorf("nil: %d bits are put", n)
		}
	}
	if b := w.Done(); w.Len() != 0 || b != nil {
		t.Errorf("nil: %d, % x", w.Len(), b)
	}
	var r *bits.Reader
	for _, n := range append([]int{0, 1, 8, 16}, wrongs...) {
		if v, ok := r.Take(n); v != 0 || ok {
			t.Errorf("nil: Take(%d) = %d, %v", n, v, ok)
		}
	}
	if r.Left() != 0 || r.Filled() {
		t.Errorf("nil: %d, %v", r.Left(), r.Filled())
	}
}

// TestNotByNew: a Reader that New did not make has nothing to read.
func TestNotByNew(t *testing.T) {
	var r bits.Reader
	leaves(t, &r, "")
	for _, n := range append([]int{1, 8, 16}, wrongs...) {
		if v, ok := r.Take(n); v != 0 || ok {
			t.Errorf("Take(%d) = %d, %v", n, v, ok)
		}
	}
	if v, ok := r.Take(0); v != 0 || !ok {
		t.Errorf("Take(0) = %d, %v", v, ok)
	}
}

// P3.6

// spared is b with spare capacity behind it, and the whole of both.
func spared(b []byte) (part, whole []byte) {
	whole = append(slices.Clone(b), 0, 0xff, 0, 0x11, 0xff, 0, 0x22, 0x33, 0x44, 0x55, 0x66, 0x77)
	return whole[:len(b)], whole
}

func TestArgumentsStay(t *testing.T) {
	for _, b := range strung(telling, 4) {
		part, whole := spared(b)
		before := slices.Clone(whole)
		bits.Stuff(part)
		bits.Plain(part)
		r := bits.New(part)
		for ok := true; ok; _, ok = r.Take(5) {
			r.Filled()
		}
		if !bytes.Equal(whole, before) {
			t.Fatalf("% x has become % x", before, whole)
		}
	}
}

// flip changes every byte of b, and what capacity it has behind it.
func flip(b []byte) {
	for i := range b[:cap(b)] {
		b[:cap(b)][i] ^= 0x5a
	}
}

func TestResultsAreNew(t *testing.T) {
	for _, b := range strung(telling, 4) {
		part, whole := spared(b)
		s, again := bits.Stuff(part), bits.Stuff(part)
		p, ok := bits.Plain(part)
		r := bits.New(part)
		text, _ := read(b)
		flip(whole)
		flip(again)
		if !bytes.Equal(s, stuffed(b)) || ok && !bytes.Equal(p, text) {
			t.Fatalf("% x: % x, % x", b, s, p)
		}
		for left := spelt(text); left != ""; left = left[8:] {
			if v, ok := r.Take(8); v != number(left[:8]) || !ok {
				t.Fatalf("% x: %d, %v", b, v, ok)
			}
		}
		if flip(p); !bytes.Equal(s, stuffed(b)) {
			t.Fatalf("% x: % x", b, s)
		}
	}
}

func TestDoneIsNew(t *testing.T) {
	roll := dice()
	for range 200 {
		var w bits.Writer
		text := ""
		for range 12 {
			v, n := values[roll(len(values))], roll(maxBits+1)
			first := w.Done()
			want := slices.Clone(first)
			w.Put(v, n)
			text += low(v, n)
			if !bytes.Equal(first, want) {
				t.Fatalf("% x has become % x", want, first)
			}
			flip(first)
			flip(w.Done())
			holds(t, &w, text)
		}
	}
}

// TestReadersApart: two Readers of the same bytes, or a Reader and its copy, do not hold each other up.
func TestReadersApart(t *testing.T) {
	b := []byte{0x12, 0x34, 0x56}
	first, second := bits.New(b), bits.New(b)
	first.Take(12)
	third := *first
	third.Take(4)
	if first.Left() != 12 || second.Left() != 24 || third.Left() != 8 {
		t.Fatal(first.Left(), second.Left(), third.Left())
	}
	for _, c := range []struct {
		r *bits.Reader
		v int
	}{{&third, 0x56}, {first, 0x45}, {second, 0x12}} {
		if v, ok := c.r.Take(8); v != c.v || !ok {
			t.Errorf("%#x, %v", v, ok)
		}
	}
}

// P3.7

func TestRoundTripPairs(t *testing.T) {
	for n := range maxBits + 1 {
		for m := range maxBits + 1 {
			for _, v := range values {
				for _, u := range []int{0, -1, 0xaaaa} {
					comesBack(t, []put{{v, n}, {u, m}})
				}
			}
		}
	}
}

func TestRoundTripLong(t *testing.T) {
	roll := dice()
	for range 300 {
		var puts []put
		for range roll(60) {
			puts = append(puts, put{values[roll(len(values))], roll(maxBits + 1)})
		}
		comesBack(t, puts)
	}
}

// comesBack puts and takes, and checks what is between.
func comesBack(t *testing.T, puts []put) {
	t.Helper()
	var w bits.Writer
	for _, p := range puts {
		w.Put(p.v, p.n)
	}
	b := w.Done()
	if plain, ok := bits.Plain(b); !ok || !bytes.Equal(bits.Stuff(plain), b) {
		t.Fatalf("%v: % x is not stuffed", puts, b)
	}
	r := bits.New(b)
	for _, p := range puts {
		if v, ok := r.Take(p.n); v != p.v&(1<<p.n-1) || !ok {
			t.Fatalf("%v: %v comes back as %d, %v", puts, p, v, ok)
		}
	}
	if !r.Filled() {
		t.Fatalf("%v: %d bits are left", puts, r.Left())
	}
}

func TestPlainUndoesStuff(t *testing.T) {
	for _, b := range strung(telling, 6) {
		s := bits.Stuff(b)
		for i, c := range s {
			if c == 0xff && (i+1 == len(s) || s[i+1] != 0) {
				t.Fatalf("Stuff(% x) = % x", b, s)
			}
		}
		if p, ok := bits.Plain(s); !ok || !bytes.Equal(p, b) {
			t.Fatalf("Plain(% x) = % x, %v", s, p, ok)
		}
		if r := bits.New(s); r.Left() != 8*len(b) {
			t.Fatalf("%d bits are left of % x", r.Left(), s)
		}
	}
}
