package quant_test

import (
	"math"
	"math/rand/v2"
	"testing"

	"tintype/api"
	"tintype/quant"
	"tintype/zigzag"
)

const bound = 1 << 20 // of a coefficient block's elements

// standard are the base tables by their kinds, in index order, as tables K.1 and K.2 of ITU-T T.81 print them.
var standard = [...]api.Block{
	{
		16, 11, 10, 16, 24, 40, 51, 61,
		12, 12, 14, 19, 26, 58, 60, 55,
		14, 13, 16, 24, 40, 57, 69, 56,
		14, 17, 22, 29, 51, 87, 80, 62,
		18, 22, 37, 56, 68, 109, 103, 77,
		24, 35, 55, 64, 81, 104, 113, 92,
		49, 64, 78, 87, 103, 121, 120, 101,
		72, 92, 95, 98, 112, 100, 103, 99,
	},
	{
		17, 18, 24, 47, 99, 99, 99, 99,
		18, 21, 26, 66, 99, 99, 99, 99,
		24, 26, 56, 99, 99, 99, 99, 99,
		47, 66, 99, 99, 99, 99, 99, 99,
		99, 99, 99, 99, 99, 99, 99, 99,
		99, 99, 99, 99, 99, 99, 99, 99,
		99, 99, 99, 99, 99, 99, 99, 99,
		99, 99, 99, 99, 99, 99, 99, 99,
	},
}

// wrongFactors are no elements of a table; the lowest bits of some would be.
var wrongFactors = []int{0, -1, -16, -255, -256, math.MinInt, math.MinInt + 1, 256, 257, 1 << 16, 1<<16 + 1, 1 << 31, 1<<32 + 16, math.MaxInt}

// wrongQualities are out of bounds; the lowest bits of some are not.
var wrongQualities = []int{0, -1, -50, -100, math.MinInt, math.MinInt + 50, 101, 102, 150, 200, 256 + 50, 1<<16 + 50, 1<<32 + 50, math.MaxInt}

// wrongCoeffs are no elements of a coefficient block; the lowest bits of some would be.
var wrongCoeffs = []int{bound + 1, -bound - 1, bound + 2, 2 * bound, -2 * bound, 1 << 31, -1 << 31, 1<<32 + 1, -1<<32 - 1, math.MaxInt, math.MinInt, math.MinInt + 1}

// flat is a block of one number.
func flat(n int) api.Block {
	var b api.Block
	for at := range b {
		b[at] = n
	}
	return b
}

// with is b but for the element at one index.
func with(b api.Block, at, n int) api.Block {
	b[at] = n
	return b
}

// tables are tables of many kinds: flat ones, the base tables, ones with all factors, and mixed ones.
func tables() []api.Block {
	all := []api.Block{flat(1), flat(2), flat(254), flat(255), standard[0], standard[1]}
	for i := range 4 {
		var b api.Block
		for at := range b {
			b[at] = min(64*i+at+1, 255)
		}
		all = append(all, b)
	}
	from := rand.New(rand.NewPCG(6, 255))
	for range 50 {
		var b api.Block
		for at := range b {
			b[at] = 1 + from.IntN(255)
		}
		all = append(all, b)
	}
	return all
}

// coeffs are coefficient blocks of many kinds: flat ones, and ones of small, of mixed and of great elements.
func coeffs() []api.Block {
	all := []api.Block{{}, flat(1), flat(-1), flat(bound), flat(-bound), flat(bound - 1), flat(1 - bound)}
	from := rand.New(rand.NewPCG(6, bound))
	for _, most := range []int{1, 10, 300, 5000, 100000, bound} {
		for range 10 {
			var b api.Block
			for at := range b {
				b[at] = from.IntN(2*most+1) - most
			}
			all = append(all, b)
		}
	}
	return all
}

// samples are coefficients about every multiple and every half of a factor near 0, and at both ends.
func samples() []int {
	var all []int
	for n := -1100; n <= 1100; n++ {
		all = append(all, n)
	}
	for n := range 600 {
		all = append(all, bound-n, n-bound)
	}
	return all
}

// isQuotient reports whether d is the integer nearest to n / q, the one farther from 0 of two.
func isQuotient(n, q, d int) bool {
	off := magnitude(2 * (d*q - n))
	return off < q || off == q && magnitude(d*q) > magnitude(n)
}

func magnitude(n int) int {
	return max(n, -n)
}

// isScaled reports whether got is x scaled by a quality. It finds both quotients by counting up, not by division.
func isScaled(x, quality, got int) bool {
	s := 200 - 2*quality
	if quality < 50 {
		for s = 0; (s+1)*quality <= 5000; s++ {
		}
	}
	floor := 0
	for 100*(floor+1) <= x*s+50 {
		floor++
	}
	switch {
	case floor < 1:
		return got == 1
	case floor > 255:
		return got == 255
	}
	return got == floor
}

// P6.1: elements from 1 to 255 make a table, wherever they are.
func TestMayOfTables(t *testing.T) {
	for i, q := range tables() {
		if !quant.May(q) {
			t.Errorf("table %d: May(%v) = false", i, q)
		}
	}
	for n := 1; n <= 255; n++ {
		for at := range 64 {
			if !quant.May(with(flat(16), at, n)) {
				t.Errorf("May with a %d at %d = false", n, at)
			}
		}
	}
}

// P6.1: one element out of bounds is enough, wherever it is.
func TestMayOfOthers(t *testing.T) {
	for _, n := range wrongFactors {
		if quant.May(flat(n)) {
			t.Errorf("May of %d everywhere = true", n)
		}
		for at := range 64 {
			if quant.May(with(flat(1), at, n)) || quant.May(with(flat(255), at, n)) {
				t.Errorf("May with a %d at %d = true", n, at)
			}
		}
	}
}

// P6.1: the base tables are those of the standard, in index order.
func TestBaseFollowsTheStandard(t *testing.T) {
	for kind, want := range standard {
		got, ok := quant.Base(kind)
		if got != want || !ok {
			t.Errorf("Base(%d) = %v, %v, want %v, true", kind, got, ok, want)
		}
		if !quant.May(got) {
			t.Errorf("Base(%d) is no table", kind)
		}
	}
}

// P6.1: the base tables in zigzag order begin and end as the chapter lists them.
func TestBaseInZigzagOrder(t *testing.T) {
	starts := [...][16]int{
		{16, 11, 12, 14, 12, 10, 16, 14, 13, 14, 18, 17, 16, 19, 24, 40},
		{17, 18, 18, 24, 21, 24, 47, 26, 26, 47, 99, 66, 56, 66, 99, 99},
	}
	ends := [...][4]int{{92, 101, 103, 99}, {99, 99, 99, 99}}
	for kind := range starts {
		b, _ := quant.Base(kind)
		z := zigzag.To(b)
		if start, end := [16]int(z[:16]), [4]int(z[60:]); start != starts[kind] || end != ends[kind] {
			t.Errorf("Base(%d) in zigzag order begins %v and ends %v", kind, start, end)
		}
	}
}

// P6.1: there are no other kinds; the zero Block comes with false.
func TestBaseOfNoKind(t *testing.T) {
	for _, kind := range []int{-1, 2, -2, 3, 4, 255, 256, -256, 1 << 8, 1 << 16, 1 << 32, 1<<32 + 1, math.MinInt, math.MinInt + 1, math.MaxInt} {
		if b, ok := quant.Base(kind); b != (api.Block{}) || ok {
			t.Errorf("Base(%d) = %v, %v", kind, b, ok)
		}
	}
}

// P6.2: every element and every quality, by the definition.
func TestScaledByDefinition(t *testing.T) {
	for quality := 1; quality <= 100; quality++ {
		for x := 1; x <= 255; x++ {
			got, e := quant.Scaled(flat(x), quality)
			if e != api.OK || got != flat(got[0]) || !isScaled(x, quality, got[0]) {
				t.Errorf("%d scaled by %d = %v, %v", x, quality, got, e)
			}
		}
	}
}

// P6.2: the edges, among them the examples of the chapter.
func TestScaledAtTheEdges(t *testing.T) {
	for _, c := range []struct{ x, quality, want int }{
		{16, 50, 16}, {16, 25, 32}, {16, 100, 1}, {16, 1, 255}, // the examples
		{1, 1, 50}, {5, 1, 250}, {6, 1, 255}, {255, 1, 255}, // s is 5000
		{2, 49, 2}, {24, 49, 24}, {25, 49, 26}, {249, 49, 254}, {250, 49, 255}, {251, 49, 255}, {255, 49, 255}, // s is 102
		{1, 50, 1}, {255, 50, 255}, // s is 100
		{25, 51, 25}, {24, 51, 24}, {26, 51, 25}, {255, 51, 250}, // s is 98
		{1, 99, 1}, {24, 99, 1}, {75, 99, 2}, {255, 99, 5}, // s is 2
		{1, 100, 1}, {255, 100, 1}, // s is 0
		{1, 75, 1}, {99, 75, 50}, {10, 33, 15}, {17, 90, 3}, {10, 3, 167}, // s is 50, 151, 20 and 1666
	} {
		if got, e := quant.Scaled(flat(c.x), c.quality); got != flat(c.want) || e != api.OK {
			t.Errorf("%d scaled by %d = %d, %v, want %d", c.x, c.quality, got[0], e, c.want)
		}
	}
}

// P6.2: each element is scaled at its own index.
func TestScaledKeepsIndices(t *testing.T) {
	for i, q := range tables() {
		for _, quality := range []int{1, 20, 49, 50, 51, 75, 100} {
			got, e := quant.Scaled(q, quality)
			if e != api.OK || !quant.May(got) {
				t.Errorf("table %d scaled by %d = %v, %v", i, quality, got, e)
			}
			for at, x := range q {
				if !isScaled(x, quality, got[at]) {
					t.Errorf("table %d scaled by %d: %d at %d becomes %d", i, quality, x, at, got[at])
				}
			}
		}
	}
}

// P6.2: a wrong table or a wrong quality is told, with the zero Block.
func TestScaledOfWrongArguments(t *testing.T) {
	for _, quality := range wrongQualities {
		for _, q := range []api.Block{flat(1), flat(16), flat(255), flat(0)} {
			if got, e := quant.Scaled(q, quality); got != (api.Block{}) || e != api.ErrArg {
				t.Errorf("%d scaled by %d = %v, %v", q[0], quality, got, e)
			}
		}
	}
	for _, n := range wrongFactors {
		for at := range 64 {
			for _, quality := range []int{1, 50, 100} {
				if got, e := quant.Scaled(with(flat(16), at, n), quality); got != (api.Block{}) || e != api.ErrArg {
					t.Errorf("a %d at %d scaled by %d = %v, %v", n, at, quality, got, e)
				}
			}
		}
	}
}

// P6.3: every factor, and coefficients about multiples and halves of it and at both ends.
func TestDivideAndMultiplyByDefinition(t *testing.T) {
	for q := 1; q <= 255; q++ {
		all := samples()
		for start := 0; start < len(all); start += 64 {
			var b api.Block
			copy(b[:], all[start:])
			d, e := quant.Divide(b, flat(q))
			m, f := quant.Multiply(b, flat(q))
			if e != api.OK || f != api.OK {
				t.Fatalf("by %d: %v, %v", q, e, f)
			}
			for at, n := range b {
				if !isQuotient(n, q, d[at]) || m[at] != n*q {
					t.Errorf("%d by %d: quantized %d, dequantized %d", n, q, d[at], m[at])
				}
			}
		}
	}
}

// P6.3: the edges, among them the examples of the chapter: halves go away from 0 on either side of it.
func TestDivideAtTheEdges(t *testing.T) {
	for _, c := range []struct{ n, q, want int }{
		{8, 16, 1}, {7, 16, 0}, {24, 16, 2}, {23, 16, 1}, {25, 16, 2}, {40, 16, 3}, {39, 16, 2},
		{1, 2, 1}, {2, 2, 1}, {3, 2, 2}, {5, 2, 3}, {127, 254, 1}, {126, 254, 0}, {381, 254, 2},
		{1, 3, 0}, {2, 3, 1}, {4, 3, 1}, {5, 3, 2}, {127, 255, 0}, {128, 255, 1}, {382, 255, 1}, {383, 255, 2},
		{0, 1, 0}, {1, 1, 1}, {bound, 1, bound}, {bound - 1, 1, bound - 1},
		{bound, 2, bound / 2}, {bound - 1, 2, bound / 2}, {bound, 254, 4128}, {bound, 255, 4112},
	} {
		if got, e := quant.Divide(flat(c.n), flat(c.q)); got != flat(c.want) || e != api.OK {
			t.Errorf("%d by %d = %d, %v, want %d", c.n, c.q, got[0], e, c.want)
		}
		if got, e := quant.Divide(flat(-c.n), flat(c.q)); got != flat(-c.want) || e != api.OK {
			t.Errorf("%d by %d = %d, %v, want %d", -c.n, c.q, got[0], e, -c.want)
		}
	}
}

// P6.3: dequantizing has no bound but that of what it is given.
func TestMultiplyAtTheEdges(t *testing.T) {
	for _, c := range []struct{ n, q, want int }{
		{0, 255, 0}, {1, 1, 1}, {-1, 255, -255}, {3, 16, 48}, {-3, 16, -48},
		{bound, 1, bound}, {-bound, 1, -bound}, {bound, 255, 267386880}, {-bound, 255, -267386880},
		{4112, 255, 1048560}, {4113, 255, 1048815}, {-4113, 255, -1048815},
	} {
		if got, e := quant.Multiply(flat(c.n), flat(c.q)); got != flat(c.want) || e != api.OK {
			t.Errorf("%d by %d = %d, %v, want %d", c.n, c.q, got[0], e, c.want)
		}
	}
}

// P6.3: each element meets the table's element at the same index.
func TestDivideAndMultiplyKeepIndices(t *testing.T) {
	for i, q := range tables() {
		for j, b := range coeffs() {
			d, e := quant.Divide(b, q)
			m, f := quant.Multiply(b, q)
			if e != api.OK || f != api.OK {
				t.Fatalf("block %d by table %d: %v, %v", j, i, e, f)
			}
			for at, n := range b {
				if !isQuotient(n, q[at], d[at]) || m[at] != n*q[at] {
					t.Errorf("block %d by table %d: %d by %d at %d: quantized %d, dequantized %d", j, i, n, q[at], at, d[at], m[at])
				}
			}
		}
	}
}

// refused holds Divide and Multiply to ErrArg and the zero Block.
func refused(t *testing.T, b, q api.Block) {
	t.Helper()
	if got, e := quant.Divide(b, q); got != (api.Block{}) || e != api.ErrArg {
		t.Errorf("Divide(%v, %v) = %v, %v", b, q, got, e)
	}
	if got, e := quant.Multiply(b, q); got != (api.Block{}) || e != api.ErrArg {
		t.Errorf("Multiply(%v, %v) = %v, %v", b, q, got, e)
	}
}

// P6.3: a wrong table, wherever its wrong element is, and whatever the block.
func TestDivideAndMultiplyByNoTable(t *testing.T) {
	for _, n := range wrongFactors {
		refused(t, api.Block{}, flat(n))
		refused(t, flat(bound), flat(n))
		refused(t, flat(bound+1), flat(n))
		for at := range 64 {
			refused(t, flat(5), with(flat(1), at, n))
			refused(t, flat(5), with(flat(255), at, n))
		}
	}
	refused(t, api.Block{}, api.Block{})
}

// P6.3: a wrong block, wherever its wrong element is.
func TestDivideAndMultiplyOfNoCoefficients(t *testing.T) {
	for _, n := range wrongCoeffs {
		refused(t, flat(n), flat(1))
		for at := range 64 {
			refused(t, with(api.Block{}, at, n), standard[0])
			refused(t, with(flat(bound), at, n), flat(255))
		}
	}
}

// P6.4: what is quantized and dequantized differs by at most half of the table's element.
func TestErrorBound(t *testing.T) {
	for i, q := range tables() {
		for j, b := range coeffs() {
			d, _ := quant.Divide(b, q)
			m, e := quant.Multiply(d, q)
			if e != api.OK {
				t.Fatalf("block %d by table %d: %v", j, i, e)
			}
			for at := range b {
				if 2*magnitude(m[at]-b[at]) > q[at] {
					t.Errorf("block %d by table %d: %d becomes %d by %d", j, i, b[at], m[at], q[at])
				}
			}
		}
	}
}

// P6.4: what is dequantized is quantized to what it was, or is no coefficient block any more.
func TestQuantizingADequantizedBlock(t *testing.T) {
	counts := map[api.Errno]int{}
	for i, q := range tables() {
		for j, b := range coeffs() {
			m, _ := quant.Multiply(b, q)
			beyond := false
			for _, n := range m {
				beyond = beyond || magnitude(n) > bound
			}
			d, e := quant.Divide(m, q)
			counts[e]++
			if beyond && (d != api.Block{} || e != api.ErrArg) {
				t.Errorf("block %d by table %d: %v, %v, though dequantized beyond the bound", j, i, d, e)
			}
			if !beyond && (d != b || e != api.OK) {
				t.Errorf("block %d by table %d: %v, %v, want %v", j, i, d, e, b)
			}
		}
	}
	if counts[api.OK] == 0 || counts[api.ErrArg] == 0 {
		t.Errorf("not both cases: %v", counts)
	}
}

// P6.5: a greater quality increases no element.
func TestScaledIsMonotonic(t *testing.T) {
	for x := 1; x <= 255; x++ {
		was := 255
		for quality := 1; quality <= 100; quality++ {
			s, e := quant.Scaled(flat(x), quality)
			if e != api.OK || s[0] > was {
				t.Errorf("%d scaled by %d = %d, %v, before it %d", x, quality, s[0], e, was)
			}
			was = s[0]
		}
	}
}

// P6.5: the quality 50 changes nothing.
func TestScaledByFifty(t *testing.T) {
	for i, q := range tables() {
		if got, e := quant.Scaled(q, 50); got != q || e != api.OK {
			t.Errorf("table %d scaled by 50 = %v, %v, want %v", i, got, e, q)
		}
	}
}

// P6.5: greater elements are not quantized to lesser ones.
func TestDivideIsMonotonic(t *testing.T) {
	for q := 1; q <= 255; q++ {
		for _, start := range []int{-bound, -1000, -500, -32, 400, bound - 63} {
			var b api.Block
			for at := range b {
				b[at] = start + at
			}
			d, e := quant.Divide(b, flat(q))
			if e != api.OK {
				t.Fatalf("from %d by %d: %v", start, q, e)
			}
			for at := 1; at < len(d); at++ {
				if d[at] < d[at-1] {
					t.Errorf("%d by %d is quantized to %d, %d to %d", b[at-1], q, d[at-1], b[at], d[at])
				}
			}
		}
	}
}

// P6.5: -x is quantized to the negative of what x is quantized to.
func TestDivideOfNegatives(t *testing.T) {
	for i, q := range tables() {
		for j, b := range coeffs() {
			var negative, want api.Block
			d, _ := quant.Divide(b, q)
			for at := range b {
				negative[at], want[at] = -b[at], -d[at]
			}
			if got, e := quant.Divide(negative, q); got != want || e != api.OK {
				t.Errorf("block %d negated by table %d: %v, %v, want %v", j, i, got, e, want)
			}
		}
	}
}

// G3, G6: what is done to a result, or called between, changes no later answer.
func TestAnswersStayTheSame(t *testing.T) {
	for i := range 64 {
		for kind, want := range standard {
			b, ok := quant.Base(kind)
			if b != want || !ok {
				t.Fatalf("call %d: Base(%d) = %v, %v", i, kind, b, ok)
			}
			q := with(b, i, i+1)
			kept := q
			s, _ := quant.Scaled(q, i+1)
			d, _ := quant.Divide(s, q)
			m, _ := quant.Multiply(d, q)
			b[i], s[i], d[i], m[i] = 0, 0, 0, 0
			if q != kept {
				t.Fatalf("call %d: a table became %v", i, q)
			}
		}
	}
}
