package ratio_test

import (
	"fmt"
	"math"
	"math/big"
	"regexp"
	"slices"
	"strings"
	"testing"

	"tintype/api"
	"tintype/ratio"
)

const (
	least = -1 << 31  // the least signed number of four bytes
	most  = 1<<31 - 1 // the greatest one
	half  = 1 << 31   // the least unsigned number that is not a signed one
	full  = 1<<32 - 1 // the greatest unsigned number
	limit = 4096      // the greatest bound of denominators
)

var none api.Ratio

// of is a ratio.
func of(num, den int) api.Ratio { return api.Ratio{Num: num, Den: den} }

// edges are numbers around which a part begins or ceases to be unsigned, signed, or either.
var edges = []int{
	math.MinInt, math.MinInt + 1, -1<<62 - 1, -1 << 62, -1 << 33, -1<<32 - 1, -1 << 32, -full, least - 2, least - 1, least, least + 1, -65536, -3, -2, -1,
	0, 1, 2, 3, 4, 65535, 65536, most - 1, most, half, half + 1, half + 2, full - 2, full - 1, full, full + 1, full + 2, full + 3, 1 << 33, 1<<33 + 1, 1 << 53, 1<<62 + 1, math.MaxInt - 1, math.MaxInt,
}

func isUnsigned(n int) bool { return 0 <= n && n <= full }

func isSigned(n int) bool { return least <= n && n <= most }

func isValid(r api.Ratio) bool {
	return isUnsigned(r.Num) && isUnsigned(r.Den) || isSigned(r.Num) && isSigned(r.Den)
}

// pairs are the ratios of the numbers of l, valid or not.
func pairs(l []int) []api.Ratio {
	var all []api.Ratio
	for _, num := range l {
		for _, den := range l {
			all = append(all, of(num, den))
		}
	}
	return all
}

// small are the numbers from -n to n.
func small(n int) []int {
	var l []int
	for i := -n; i <= n; i++ {
		l = append(l, i)
	}
	return l
}

// chosen are valid ratios and others: those of edges, those of small numbers, and some that differ by next to nothing.
func chosen() []api.Ratio {
	all := append(pairs(edges), pairs(small(9))...)
	for k := range 6 {
		all = append(all, of(full-k, full-k-1), of(full-k-1, full-k), of(full-k, full-k), of(most-k, most-k-1), of(least+k, most-k), of(most-k, least+k), of(least+k, least+k+1), of(full-k, half-k), of(half-k, full-k))
	}
	return all
}

// valids are the valid ratios of chosen that have a value.
func valids() []api.Ratio {
	return slices.DeleteFunc(chosen(), func(r api.Ratio) bool { return !isValid(r) || r.Den == 0 })
}

// value is what r is worth, by the library of the language.
func value(r api.Ratio) *big.Rat { return big.NewRat(int64(r.Num), int64(r.Den)) }

// inLowest reports whether r is in lowest terms.
func inLowest(r api.Ratio) bool {
	n, d := big.NewInt(int64(r.Num)), big.NewInt(int64(r.Den))
	return r.Den > 0 && new(big.Int).GCD(nil, nil, n.Abs(n), d).Int64() == 1
}

// invalids are ratios that are neither valid unsigned nor valid signed ones.
var invalids = []api.Ratio{
	of(-1, half), of(half, -1), of(-1, full), of(full, -1), of(least, half), of(half, least), of(least, full), of(full, least), // each part is valid, the two together are not
	of(full+1, 1), of(1, full+1), of(full+2, 1), of(1, full+2), of(full+1, full+1), of(0, full+1), of(full+1, 0),
	of(least-1, 1), of(1, least-1), of(least-1, -1), of(0, least-1), of(least-1, 0), of(least-1, least-1),
	of(-full, 1), of(1, -full), of(-1<<32, 1), of(1, -1<<32), of(-1<<32, 0),
	of(math.MinInt, 1), of(1, math.MinInt), of(math.MaxInt, 1), of(1, math.MaxInt), of(math.MinInt, math.MinInt), of(math.MinInt, -1), of(-1, math.MinInt), of(math.MaxInt, math.MinInt), of(0, math.MinInt), of(math.MinInt, 0),
	of(1<<32+1, 1<<32+1), of(1<<33+1, 2), of(2, 1<<33+1), // equal to valid parts in the low 32 bits
}

// All: what is not valid

func TestInvalid(t *testing.T) {
	good := []api.Ratio{of(0, 1), of(1, 2), of(-1, 2), of(full, 1), of(1, 0)}
	for _, r := range invalids {
		if ratio.Plain(r) || ratio.Signed(r) {
			t.Errorf("%v is valid", r)
		}
		for _, g := range append(good, r, of(math.MinInt, math.MaxInt)) {
			if n, ok := ratio.Cmp(r, g); n != 0 || ok {
				t.Errorf("Cmp(%v, %v) = %d, %v", r, g, n, ok)
			}
			if n, ok := ratio.Cmp(g, r); n != 0 || ok {
				t.Errorf("Cmp(%v, %v) = %d, %v", g, r, n, ok)
			}
		}
		if l, ok := ratio.Least(r); l != none || ok {
			t.Errorf("Least(%v) = %v, %v", r, l, ok)
		}
		if s := ratio.Text(r); s != "" {
			t.Errorf("Text(%v) = %q", r, s)
		}
		if p, ok := ratio.Parse(fmt.Sprintf("%d/%d", r.Num, r.Den)); p != none || ok {
			t.Errorf("Parse of %v: %v, %v", r, p, ok)
		}
		for _, m := range []int{1, 2, 100, limit} {
			if n, ok := ratio.Near(r, m); n != none || ok {
				t.Errorf("Near(%v, %d) = %v, %v", r, m, n, ok)
			}
		}
	}
}

func TestAnythingEnds(t *testing.T) {
	for _, r := range pairs(edges) {
		for _, c := range pairs([]int{math.MinInt, least, -1, 0, 1, full, math.MaxInt}) {
			ratio.Cmp(r, c)
			ratio.Cmp(c, r)
		}
		ratio.Least(r)
		ratio.Text(r)
		for _, m := range []int{math.MinInt, -1, 0, 1, 2, math.MaxInt} {
			ratio.Near(r, m)
		}
	}
}

// P2.1

func TestPlainAndSigned(t *testing.T) {
	for _, r := range chosen() {
		if got, want := ratio.Plain(r), isUnsigned(r.Num) && isUnsigned(r.Den); got != want {
			t.Errorf("Plain(%v) = %v", r, got)
		}
		if got, want := ratio.Signed(r), isSigned(r.Num) && isSigned(r.Den); got != want {
			t.Errorf("Signed(%v) = %v", r, got)
		}
	}
}

func TestPlainAndSignedEdges(t *testing.T) {
	for _, c := range []struct {
		r             api.Ratio
		plain, signed bool
	}{
		{of(0, 0), true, true}, {of(0, 1), true, true}, {of(1, 0), true, true}, {of(7, 3), true, true},
		{of(most, most), true, true}, {of(half, 1), true, false}, {of(1, half), true, false}, {of(half, half), true, false},
		{of(full, full), true, false}, {of(full, 0), true, false}, {of(0, full), true, false}, {of(full+1, 1), false, false}, {of(1, full+1), false, false},
		{of(-1, 1), false, true}, {of(1, -1), false, true}, {of(-1, -1), false, true}, {of(-1, 0), false, true}, {of(0, -1), false, true},
		{of(least, least), false, true}, {of(least, most), false, true}, {of(most, least), false, true}, {of(least, 0), false, true},
		{of(least-1, 1), false, false}, {of(1, least-1), false, false}, {of(-1, half), false, false}, {of(half, -1), false, false},
	} {
		if p, s := ratio.Plain(c.r), ratio.Signed(c.r); p != c.plain || s != c.signed {
			t.Errorf("%v: %v, %v", c.r, p, s)
		}
	}
}

// P2.2

func TestCmpValues(t *testing.T) {
	all := valids()
	for _, a := range all {
		for _, b := range all {
			if n, ok := ratio.Cmp(a, b); n != value(a).Cmp(value(b)) || !ok {
				t.Fatalf("Cmp(%v, %v) = %d, %v", a, b, n, ok)
			}
		}
	}
}

func TestCmpExamples(t *testing.T) {
	for _, c := range []struct {
		a, b api.Ratio
		n    int
	}{
		{of(1, 2), of(2, 4), 0}, {of(-1, 3), of(1, -4), -1}, {of(1, 3), of(1, 2), -1}, {of(2, 3), of(1, 2), 1},
		{of(0, 5), of(0, -7), 0}, {of(0, least), of(0, full), 0}, {of(0, -1), of(1, full), -1}, {of(0, -1), of(-1, most), 1},
		{of(-1, -2), of(1, 2), 0}, {of(-1, 2), of(1, -2), 0}, {of(-1, 2), of(1, 2), -1}, {of(-1, -2), of(-1, 2), 1},
		{of(full, full-1), of(full-1, full-2), -1}, {of(full-1, full), of(full-2, full-1), 1}, // no float tells these apart
		{of(full, 1), of(1, full), 1}, {of(full, 1), of(full-1, 1), 1}, {of(full, 1), of(-1, 1), 1}, {of(1, full), of(1, full-1), -1},
		{of(full, 1), of(most, 1), 1}, {of(full, 1), of(least, 1), 1}, {of(half, 1), of(least, -1), 0}, {of(half, half), of(least, least), 0},
		{of(least, 1), of(least, -1), -1}, {of(1, least), of(-1, most), 1}, {of(least, most), of(-1, 1), -1}, {of(most, least), of(-1, 1), 1},
	} {
		if n, ok := ratio.Cmp(c.a, c.b); n != c.n || !ok {
			t.Errorf("Cmp(%v, %v) = %d, %v", c.a, c.b, n, ok)
		}
	}
}

func TestCmpNoValue(t *testing.T) {
	empty := []api.Ratio{of(0, 0), of(1, 0), of(-1, 0), of(full, 0), of(least, 0), of(most, 0)}
	for _, e := range empty {
		for _, r := range append(empty, of(0, 1), of(1, 2), of(-1, 2), of(full, full), of(least, least)) {
			if n, ok := ratio.Cmp(e, r); n != 0 || ok {
				t.Errorf("Cmp(%v, %v) = %d, %v", e, r, n, ok)
			}
			if n, ok := ratio.Cmp(r, e); n != 0 || ok {
				t.Errorf("Cmp(%v, %v) = %d, %v", r, e, n, ok)
			}
		}
	}
}

// P2.3

func TestLeastTerms(t *testing.T) {
	for _, r := range append(valids(), slices.DeleteFunc(pairs(small(40)), func(r api.Ratio) bool { return r.Den == 0 })...) {
		got, ok := ratio.Least(r)
		if !ok || !inLowest(got) || value(got).Cmp(value(r)) != 0 {
			t.Errorf("Least(%v) = %v, %v", r, got, ok)
		}
	}
}

func TestLeastExamples(t *testing.T) {
	for _, c := range []struct{ r, want api.Ratio }{
		{of(6, -4), of(-3, 2)}, {of(0, 5), of(0, 1)}, {of(0, -5), of(0, 1)}, {of(0, full), of(0, 1)}, {of(0, least), of(0, 1)}, {of(0, 1), of(0, 1)},
		{of(-6, -4), of(3, 2)}, {of(-6, 4), of(-3, 2)}, {of(6, 4), of(3, 2)}, {of(1, 1), of(1, 1)}, {of(-1, -1), of(1, 1)}, {of(7, 1), of(7, 1)}, {of(3, -1), of(-3, 1)},
		{of(full, full), of(1, 1)}, {of(full, 1), of(full, 1)}, {of(1, full), of(1, full)}, {of(full, 65537), of(65535, 1)}, {of(65535, full), of(1, 65537)},
		{of(half, 2), of(1<<30, 1)}, {of(2, half), of(1, 1<<30)}, {of(half, full), of(half, full)},
		{of(least, least), of(1, 1)}, {of(least, 1), of(least, 1)}, {of(least, -1), of(half, 1)}, {of(least, 2), of(-1<<30, 1)}, {of(2, least), of(-1, 1<<30)},
		{of(least, most), of(least, most)}, {of(most, least), of(-most, half)}, {of(1, least), of(-1, half)}, {of(-1, least), of(1, half)},
	} {
		if got, ok := ratio.Least(c.r); got != c.want || !ok {
			t.Errorf("Least(%v) = %v, %v; want %v", c.r, got, ok, c.want)
		}
	}
}

func TestLeastNoValue(t *testing.T) {
	for _, num := range []int{0, 1, -1, 2, full, most, half, least} {
		if got, ok := ratio.Least(of(num, 0)); got != none || ok {
			t.Errorf("Least(%d/0) = %v, %v", num, got, ok)
		}
	}
}

// P2.4

func TestTexts(t *testing.T) {
	for _, r := range chosen() {
		want := ""
		if isValid(r) {
			want = fmt.Sprintf("%d/%d", r.Num, r.Den)
		}
		if got := ratio.Text(r); got != want {
			t.Errorf("Text(%v) = %q", r, got)
		}
	}
}

// written pairs texts with the valid ratios that they are of.
var written = map[string]api.Ratio{
	"0/0": of(0, 0), "0/1": of(0, 1), "1/0": of(1, 0), "-1/0": of(-1, 0), "0/-1": of(0, -1), "-1/2": of(-1, 2), "1/-2": of(1, -2), "-1/-2": of(-1, -2), "2/4": of(2, 4), "10/100": of(10, 100), "355/113": of(355, 113),
	"4294967295/4294967295": of(full, full), "4294967295/0": of(full, 0), "0/4294967295": of(0, full), "2147483648/1": of(half, 1), "1/2147483648": of(1, half),
	"-2147483648/-2147483648": of(least, least), "-2147483648/2147483647": of(least, most), "2147483647/-2147483648": of(most, least), "-2147483648/0": of(least, 0),
}

func TestTextExamples(t *testing.T) {
	for s, r := range written {
		if got := ratio.Text(r); got != s {
			t.Errorf("Text(%v) = %q", r, got)
		}
		if got, ok := ratio.Parse(s); got != r || !ok {
			t.Errorf("Parse(%q) = %v, %v", s, got, ok)
		}
	}
}

func TestParseWrong(t *testing.T) {
	for _, s := range []string{
		"", "/", "//", "1", "-1", "1/", "/1", "-/1", "1/-", "-", "-/-", "1//2", "/1/2", "1/2/", "1/2/3", "0/0/0",
		"01/2", "1/02", "00/1", "0/00", "-01/2", "1/-02", "0000000001/2", "1/0000000000000000000000002",
		"-0/1", "1/-0", "-0/-0", "-00/1", "+1/2", "1/+2", "+0/1", "--1/2", "1/--2", "-+1/2", "+-1/2", "1-/2", "1/2-",
		" 1/2", "1 /2", "1/ 2", "1/2 ", "- 1/2", "1/2\n", "\n1/2", "\t1/2", "1/2\x00", "\x001/2", "1\x00/2", "1/2\r\n",
		"a/2", "1/x", "0x1/2", "1/0x2", "0b1/1", "0o7/1", "1e3/1", "1.0/2", "1/2.0", ".5/1", "1_0/2", "1/1_000", "1,000/2", "f/f", "NaN/1", "inf/1",
		"1\\2", "1:2", "1|2", "1-2", "1÷2", "½", "١/٢", "１/２", "−1/2", "1／2", "\xff/1", "1/\xff",
		"4294967296/1", "1/4294967296", "4294967297/1", "1/4294967297", "4294967296/4294967296", "0/4294967296", "4294967296/0", "9999999999/1",
		"-2147483649/1", "1/-2147483649", "-4294967295/1", "-4294967296/1", "1/-4294967296", "-2147483649/0",
		"-1/2147483648", "2147483648/-1", "-1/4294967295", "-2147483648/2147483648", "4294967295/-2147483648",
		"9223372036854775807/1", "9223372036854775808/1", "-9223372036854775808/1", "-9223372036854775809/1", "1/18446744073709551615",
		"18446744073709551616/1", "18446744073709551617/1", "1/18446744073709551617", "-18446744073709551615/1", "340282366920938463463374607431768211457/1",
		strings.Repeat("1", 1000) + "/1", "1/" + strings.Repeat("9", 1000), strings.Repeat("0", 1000) + "/1", strings.Repeat("/", 1000), strings.Repeat("1/", 1000),
	} {
		if r, ok := ratio.Parse(s); r != none || ok {
			t.Errorf("Parse(%q) = %v, %v", s, r, ok)
		}
	}
}

// TestParseShort tries all strings of up to six of these bytes.
func TestParseShort(t *testing.T) {
	form := regexp.MustCompile(`^(0|-?[1-9][0-9]*)/(0|-?[1-9][0-9]*)$`)
	level := []string{""}
	for range 6 {
		var longer []string
		for _, s := range level {
			for _, c := range []byte("/-+012 ") {
				longer = append(longer, s+string(c))
			}
		}
		for _, s := range longer {
			r, ok := ratio.Parse(s)
			if ok != form.MatchString(s) || !ok && r != none || ok && fmt.Sprintf("%d/%d", r.Num, r.Den) != s {
				t.Fatalf("Parse(%q) = %v, %v", s, r, ok)
			}
		}
		level = longer
	}
}

// P2.5

// off is the distance of c from r in parts of r.Den * c.Den.
func off(c, r api.Ratio) int {
	n := c.Num*r.Den - r.Num*c.Den
	return max(n, -n)
}

// better reports whether c comes ahead of d, as nearest to r: by its distance, its denominator, its value.
func better(c, d, r api.Ratio) bool {
	l, m := off(c, r)*d.Den, off(d, r)*c.Den
	return l < m || l == m && (c.Den < d.Den || c.Den == d.Den && c.Num < d.Num)
}

// sought is the nearest ratio to r, from among all in lowest terms about r, gone through from the greatest down.
func sought(r api.Ratio, bound int) api.Ratio {
	best := of(r.Num/r.Den+1, 1) // beside r: what is far off would be out of 64 bits, multiplied
	for den := bound; den >= 1; den-- {
		about := r.Num * den / r.Den
		for num := about + 2; num >= about-2; num-- {
			if c := of(num, den); inLowest(c) && better(c, best, r) {
				best = c
			}
		}
	}
	return best
}

func TestNearSmall(t *testing.T) {
	for num := range 31 {
		for den := 1; den <= 30; den++ {
			for bound := 1; bound <= 32; bound++ {
				r := of(num, den)
				if got, ok := ratio.Near(r, bound); got != sought(r, bound) || !ok {
					t.Fatalf("Near(%v, %d) = %v, %v; want %v", r, bound, got, ok, sought(r, bound))
				}
			}
		}
	}
}

// bounded are ratios that Near takes, with parts up to the greatest.
var bounded = []api.Ratio{
	of(0, 1), of(0, full), of(1, 1), of(full, 1), of(1, full), of(full, full), of(full, 2), of(full, 4), of(full, full-1), of(full-1, full), of(full, half), of(half, full), of(half, 1), of(most, 2), of(2, most), of(full-1, full-2),
	of(full, 4097), of(full, 4099), of(full, 8191), of(4097, 4096), of(4096, 4097), of(4095, 8192), of(1, 8192), of(1, 8191), of(1, 8193), of(1, 4097), of(4097, 2), of(3, 8190),
	of(355, 113), of(710, 226), of(314159265, 100000000), of(3141592653, 1000000000), of(271828183, 100000000), of(1618033988, 1000000000), of(1414213562, 1000000000), of(123456789, 987654321), of(4000000007, 3000000019), of(1000003, 4294967291), of(2147483629, 4294967279), of(1, 2147483647),
}

func TestNearGreat(t *testing.T) {
	for _, r := range bounded {
		for _, bound := range []int{1, 2, 3, 7, 50, 100, 113, 1000, 2048, 4095, limit} {
			if got, ok := ratio.Near(r, bound); got != sought(r, bound) || !ok {
				t.Errorf("Near(%v, %d) = %v, %v; want %v", r, bound, got, ok, sought(r, bound))
			}
		}
	}
}

func TestNearExamples(t *testing.T) {
	for _, c := range []struct {
		r     api.Ratio
		bound int
		want  api.Ratio
	}{
		{of(355, 113), 50, of(22, 7)}, {of(355, 113), 100, of(311, 99)}, {of(355, 113), 112, of(333, 106)}, {of(355, 113), 113, of(355, 113)}, {of(355, 113), limit, of(355, 113)},
		{of(1, 2), 1, of(0, 1)}, {of(3, 2), 1, of(1, 1)}, {of(full, 2), 1, of(most, 1)}, {of(7, 2), 1, of(3, 1)}, // ties with the same Den: the smaller value
		{of(5, 12), 3, of(1, 2)}, {of(5, 12), 4, of(1, 2)}, {of(7, 12), 3, of(1, 2)}, {of(7, 12), 4, of(1, 2)}, {of(1, 4), 2, of(0, 1)}, {of(1, 4), 3, of(1, 3)}, {of(3, 4), 2, of(1, 1)}, {of(5, 4), 2, of(1, 1)}, {of(7, 4), 2, of(2, 1)}, {of(1, 8192), limit, of(0, 1)}, {of(8191, 8192), limit, of(1, 1)}, // ties of two Dens: the smaller Den
		{of(1, 8191), limit, of(1, 4096)}, {of(1, 8193), limit, of(0, 1)}, {of(1, 8191), limit - 1, of(0, 1)},
		{of(0, 7), 5, of(0, 1)}, {of(0, full), 1, of(0, 1)}, {of(2, 4), 4, of(1, 2)}, {of(6, 3), 3, of(2, 1)}, {of(full, full), limit, of(1, 1)}, {of(full, 1), limit, of(full, 1)}, {of(1, full), limit, of(0, 1)},
		{of(1, limit), limit, of(1, limit)}, {of(1, limit), limit - 1, of(1, limit-1)}, {of(1, 4097), limit, of(1, limit)},
	} {
		if got, ok := ratio.Near(c.r, c.bound); got != c.want || !ok {
			t.Errorf("Near(%v, %d) = %v, %v; want %v", c.r, c.bound, got, ok, c.want)
		}
	}
}

func TestNearWrong(t *testing.T) {
	refused := func(r api.Ratio, bound int) {
		t.Helper()
		if got, ok := ratio.Near(r, bound); got != none || ok {
			t.Errorf("Near(%v, %d) = %v, %v", r, bound, got, ok)
		}
	}
	for _, r := range []api.Ratio{
		of(-1, 2), of(-1, 1), of(least, 1), of(least, most), of(-1, 0), // Num is negative
		of(1, -2), of(0, -1), of(1, least), of(most, least), // Den is negative
		of(-1, -2), of(least, least), of(-355, -113), // the value is positive, but the parts are not
		of(0, 0), of(1, 0), of(full, 0), // no value
	} {
		for _, bound := range []int{1, 2, 5, 4095, limit, 0, -1, limit + 1} {
			refused(r, bound)
		}
	}
	for _, bound := range []int{0, -1, -2, -limit, limit + 1, limit + 2, 65536, full, 1 << 32, 1<<32 + 1, math.MinInt, math.MinInt + 1, math.MaxInt} {
		for _, r := range []api.Ratio{of(0, 1), of(1, 1), of(1, 2), of(355, 113), of(full, 1), of(1, full)} {
			refused(r, bound)
		}
	}
}

// P2.6

// ordered are valid ratios with values of all kinds, few enough to be taken three at a time.
func ordered() []api.Ratio {
	return append(pairs([]int{-2, -1, 1, 3}), of(0, 1), of(0, -4), of(least, 1), of(least, -1), of(1, least), of(-1, least), of(least, most), of(most, least), of(least, least), of(most, most), of(half, 1), of(1, half), of(full, 1), of(1, full), of(full, full-1), of(full-1, full-2), of(full-1, full), of(full-2, full-1), of(full, half), of(half, full), of(full, 2), of(2, full))
}

func TestOrderIsTransitive(t *testing.T) {
	all := ordered()
	for _, a := range all {
		for _, b := range all {
			ab, ok := ratio.Cmp(a, b)
			ba, is := ratio.Cmp(b, a)
			if !ok || !is || ab != -ba || ab < -1 || ab > 1 {
				t.Fatalf("%v, %v: %d, %v, %d, %v", a, b, ab, ok, ba, is)
			}
			for _, c := range all {
				bc, _ := ratio.Cmp(b, c)
				ac, _ := ratio.Cmp(a, c)
				if ab <= 0 && bc <= 0 && (ac > 0 || ac == 0 && (ab < 0 || bc < 0)) {
					t.Fatalf("%v, %v, %v: %d, %d, %d", a, b, c, ab, bc, ac)
				}
			}
		}
	}
}

func TestLeastIsEqual(t *testing.T) {
	for _, r := range valids() {
		l, _ := ratio.Least(r)
		n, ok := ratio.Cmp(r, l)
		if ok != isValid(l) || n != 0 {
			t.Errorf("Cmp(%v, %v) = %d, %v", r, l, n, ok)
		}
		if again, is := ratio.Least(l); ok && (again != l || !is) {
			t.Errorf("Least(%v) = %v, %v", l, again, is)
		}
	}
	if l, ok := ratio.Least(of(1, least)); l != of(-1, half) || !ok || ratio.Plain(l) || ratio.Signed(l) {
		t.Error(l, ok)
	}
	if n, ok := ratio.Cmp(of(1, least), of(-1, half)); n != 0 || ok {
		t.Error(n, ok)
	}
}

// P2.7

func TestTextsThereAndBack(t *testing.T) {
	for _, r := range chosen() {
		got, ok := ratio.Parse(ratio.Text(r))
		if valid := isValid(r); ok != valid || valid && got != r || !valid && got != none {
			t.Errorf("Parse(Text(%v)) = %v, %v", r, got, ok)
		}
	}
}

// P2.8

func TestNothingIsNearer(t *testing.T) {
	check := func(r api.Ratio, bound int, from func(den int) int) {
		t.Helper()
		got, ok := ratio.Near(r, bound)
		if !ok || got.Den < 1 || got.Den > bound || !inLowest(got) {
			t.Fatalf("Near(%v, %d) = %v, %v", r, bound, got, ok)
		}
		for den := 1; den <= bound; den++ {
			for num := from(den); num <= from(den)+12; num++ {
				if c := of(num, den); off(c, r)*got.Den < off(got, r)*den {
					t.Fatalf("Near(%v, %d) = %v; %v is nearer", r, bound, got, c)
				}
			}
		}
	}
	for num := range 12 {
		for den := 1; den <= 40; den++ {
			for bound := 1; bound <= 40; bound++ {
				check(of(num, den), bound, func(int) int { return -1 })
			}
		}
	}
	for _, r := range bounded {
		for _, bound := range []int{1, 9, 640, limit} {
			check(r, bound, func(den int) int { return r.Num*den/r.Den - 6 })
		}
	}
}

// G6

func TestSameAgain(t *testing.T) {
	for _, r := range bounded {
		first, _ := ratio.Near(r, 1000)
		ratio.Near(of(1, 3), 7)
		ratio.Parse("5/6")
		if second, _ := ratio.Near(r, 1000); first != second {
			t.Errorf("Near(%v, 1000) = %v, then %v", r, first, second)
		}
	}
}
