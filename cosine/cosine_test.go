package cosine_test

import (
	"math"
	"math/rand/v2"
	"testing"

	"tintype/api"
	"tintype/cosine"
)

// P7.1: every u and x, by the definition of the factor.
func TestFactorByDefinition(t *testing.T) {
	for u := range 8 {
		for x := range 8 {
			if got, want := cosine.Factor(u, x), factor(u, x); got != want {
				t.Errorf("Factor(%d, %d) = %d, want %d", u, x, got, want)
			}
		}
	}
}

// P7.1: the same numbers by k, as the chapter lists them.
func TestFactorByK(t *testing.T) {
	listed := [...]int{1: 32138, 2: 30274, 3: 27246, 4: 23170, 5: 18205, 6: 12540, 7: 6393, 8: 0}
	byK := map[int]int{}
	for k := 1; k <= 8; k++ {
		for _, n := range []int{k, 32 - k} {
			byK[n] = listed[k]
		}
		for _, n := range []int{16 - k, 32 - (16 - k)} {
			byK[n] = -listed[k]
		}
	}
	for x := range 8 {
		if got := cosine.Factor(0, x); got != 23170 {
			t.Errorf("Factor(0, %d) = %d, want 23170", x, got)
		}
		for u := 1; u < 8; u++ {
			want, ok := byK[(2*x+1)*u%32]
			if got := cosine.Factor(u, x); got != want || !ok {
				t.Errorf("Factor(%d, %d) = %d, want %d", u, x, got, want)
			}
		}
	}
}

// P7.1: the examples of the chapter.
func TestFactorOfTheExamples(t *testing.T) {
	for _, c := range []struct{ u, x, want int }{{0, 7, 23170}, {1, 0, 32138}, {1, 7, -32138}, {4, 1, -23170}, {2, 2, -12540}} {
		if got := cosine.Factor(c.u, c.x); got != c.want {
			t.Errorf("Factor(%d, %d) = %d, want %d", c.u, c.x, got, c.want)
		}
	}
}

// P7.1: there is no factor where u or x is out of bounds, whatever the other one is.
func TestFactorOfWrongArguments(t *testing.T) {
	wrongs := []int{-1, 8, -2, -7, -8, 9, 15, 16, 31, 32, 255, 256, -256, 1 << 16, 1<<32 + 1, -1<<32 + 1, 1 << 62, math.MaxInt, math.MaxInt - 1, math.MinInt, math.MinInt + 1}
	for _, n := range wrongs {
		for other := range 8 {
			if got := cosine.Factor(n, other); got != 0 {
				t.Errorf("Factor(%d, %d) = %d, want 0", n, other, got)
			}
			if got := cosine.Factor(other, n); got != 0 {
				t.Errorf("Factor(%d, %d) = %d, want 0", other, n, got)
			}
		}
		for _, m := range wrongs {
			if got := cosine.Factor(n, m); got != 0 {
				t.Errorf("Factor(%d, %d) = %d, want 0", n, m, got)
			}
		}
	}
}

// P7.2: blocks of many kinds, of samples and of wider elements, by the definition.
func TestTransformsByDefinition(t *testing.T) {
	blocks := append(sampleBlocks(), wideBlocks()...)
	for _, way := range both() {
		for i, b := range blocks {
			if got, e := way.of(b); got != way.byDefinition(b) || e != api.OK {
				t.Errorf("%s of block %d = %v, %v, want %v", way.name, i, got, e, way.byDefinition(b))
			}
		}
	}
}

// P7.2: one element that is not 0, at each place, up to the bound on either side of 0.
func TestTransformsOfOneElement(t *testing.T) {
	for _, way := range both() {
		for at := range 64 {
			for _, n := range []int{1, -1, 2, -3, 100, least, most, 1024, bound - 1, 1 - bound, bound, -bound} {
				b := with(api.Block{}, at, n)
				if got, e := way.of(b); got != way.byDefinition(b) || e != api.OK {
					t.Errorf("%s of only %d at %d = %v, %v, want %v", way.name, n, at, got, e, way.byDefinition(b))
				}
			}
		}
	}
}

// P7.2: the examples of the chapter.
func TestTransformsOfTheExamples(t *testing.T) {
	if got, e := cosine.Forward(flat(100)); got != (api.Block{0: 800}) || e != api.OK {
		t.Errorf("Forward of 100s = %v, %v", got, e)
	}
	if got, e := cosine.Inverse(api.Block{0: 800}); got != flat(100) || e != api.OK {
		t.Errorf("Inverse of 800 at 0 = %v, %v", got, e)
	}
	got, e := cosine.Forward(api.Block{0: 127})
	if got[0] != 16 || got[1] != 22 || got[9] != 31 || e != api.OK {
		t.Errorf("Forward of 127 at 0 = %v, %v", got, e)
	}
}

// P7.2: what is alike in all rows has coefficients in the first row alone, and the other way round.
func TestRowsAreNotColumns(t *testing.T) {
	var slope api.Block
	for at := range slope {
		slope[at] = 10 * (at % 8)
	}
	across, e := cosine.Forward(slope)
	down, f := cosine.Forward(transposed(slope))
	if across[0] <= 0 || across[1] >= 0 || down[0] <= 0 || down[8] >= 0 || e != api.OK || f != api.OK {
		t.Errorf("Forward of slopes = %v, %v; %v, %v", across, e, down, f)
	}
	for at := range across {
		if at/8 > 0 && across[at] != 0 || at%8 > 0 && down[at] != 0 {
			t.Errorf("Forward of slopes: %d across and %d down at %d", across[at], down[at], at)
		}
	}
	for at := range 8 {
		rows, e := cosine.Inverse(with(api.Block{}, at, 1000))
		columns, f := cosine.Inverse(with(api.Block{}, 8*at, 1000))
		for i := range rows {
			if rows[i] != rows[i%8] || columns[i] != columns[i/8*8] || e != api.OK || f != api.OK {
				t.Errorf("Inverse of only 1000 at %d and at %d: %d and %d at %d", at, 8*at, rows[i], columns[i], i)
			}
		}
	}
}

// P7.2: sums at a half, or the least ones above it that there are, are rounded up; the greatest ones below it are rounded down.
func TestTransformsAboutHalves(t *testing.T) {
	from := rand.New(rand.NewPCG(7, half))
	for _, way := range both() {
		exact := 0
		for at, weights := range way.weights {
			unit := divisor(weights)
			// The halves above -5793 and 5792 are multiples of 11585, as are all sums of Forward where u or v is 0 or 4.
			for _, n := range []int{-5793, -2, -1, 0, 1, 5792} {
				middle := n*one + half
				up := middle + modulo(-middle, unit)
				holdsSum(t, way, at, up, n+1, from)
				holdsSum(t, way, at, up-unit, n, from)
				if up == middle && unit == 1 {
					exact++
				}
			}
		}
		if want := map[string]int{"Forward": 6 * 16, "Inverse": 6 * 64}[way.name]; exact != want {
			t.Errorf("%s: %d halves that are met exactly, and one below, want %d", way.name, exact, want)
		}
	}
}

// holdsSum holds a transform to what it makes of some block for which the sum of one element is given.
func holdsSum(t *testing.T, way transform, at, sum, want int, from *rand.Rand) {
	t.Helper()
	b, ok := meeting(sum, way.weights[at], from)
	if !ok {
		t.Fatalf("%s: no block with the sum %d at %d", way.name, sum, at)
	}
	if got, e := way.of(b); got[at] != want || got != way.byDefinition(b) || e != api.OK {
		t.Errorf("%s with the sum %d at %d = %d, %v, want %d", way.name, sum, at, got[at], e, want)
	}
}

// P7.2: elements at the bound are right on either side of 0, wherever they are.
func TestTransformsAtTheBound(t *testing.T) {
	for _, way := range both() {
		for at := range 64 {
			for _, b := range []api.Block{with(flat(bound), at, -bound), with(flat(-bound), at, bound), with(flat(most), at, bound), with(flat(least), at, -bound)} {
				if got, e := way.of(b); got != way.byDefinition(b) || e != api.OK {
					t.Errorf("%s of %v = %v, %v", way.name, b, got, e)
				}
			}
		}
	}
}

// P7.2: one element beyond the bound is enough, wherever it is; the zero Block comes with the error.
func TestTransformsOfWrongBlocks(t *testing.T) {
	for _, way := range both() {
		for _, n := range wrongElements {
			if got, e := way.of(flat(n)); got != (api.Block{}) || e != api.ErrArg {
				t.Errorf("%s of %d everywhere = %v, %v", way.name, n, got, e)
			}
			for at := range 64 {
				for _, b := range []api.Block{with(api.Block{}, at, n), with(flat(100), at, n), with(flat(bound), at, n), with(flat(-bound), at, n)} {
					if got, e := way.of(b); got != (api.Block{}) || e != api.ErrArg {
						t.Errorf("%s with %d at %d = %v, %v", way.name, n, at, got, e)
					}
				}
			}
		}
	}
}

// P7.3: within 5/8 of the exact coefficients, also for the samples that make most of what the factors are off.
func TestForwardIsAccurate(t *testing.T) {
	blocks := sampleBlocks()
	for v := range 8 {
		for u := range 8 {
			var off [64]float64
			for at := range off {
				x, y := at%8, at/8
				off[at] = float64(factor(u, x)*factor(v, y))/one - exact(u, x)*exact(v, y)
			}
			blocks = append(blocks, bySigns(off, least, most), bySigns(off, most, least))
		}
	}
	for i, b := range blocks {
		got, e := cosine.Forward(b)
		for at, want := range exactCoefficients(b) {
			if math.Abs(float64(got[at])-want) > 0.625 || e != api.OK {
				t.Errorf("block %d: %d at %d, %v, want about %v", i, got[at], at, e, want)
			}
		}
	}
}

// P7.4: the bounds of the coefficients, among others of the samples for which each of them is greatest, and least.
func TestForwardIsBounded(t *testing.T) {
	lowest, highest := 0, 0
	for i, b := range sampleBlocks() {
		got, e := cosine.Forward(b)
		if got[0] < -1024 || got[0] > 1016 || e != api.OK {
			t.Errorf("block %d: %d at 0, %v", i, got[0], e)
		}
		for at, n := range got[1:] {
			if n < -1023 || n > 1023 {
				t.Errorf("block %d: %d at %d", i, n, at+1)
			}
		}
		lowest, highest = min(lowest, got[0]), max(highest, got[0])
	}
	if lowest != -1024 || highest != 1016 {
		t.Errorf("the first coefficients are from %d to %d, want -1024 to 1016", lowest, highest)
	}
}

// P7.5: there and back, within 4 of each sample.
func TestRoundTrip(t *testing.T) {
	blocks := sampleBlocks()
	from := rand.New(rand.NewPCG(7, 4))
	for range 5000 {
		blocks = append(blocks, mixed(from, least, most))
	}
	for i, b := range blocks {
		coeffs, e := cosine.Forward(b)
		back, f := cosine.Inverse(coeffs)
		if e != api.OK || f != api.OK {
			t.Fatalf("block %d: %v, %v", i, e, f)
		}
		for at, n := range b {
			if off := back[at] - n; off < -4 || off > 4 {
				t.Errorf("block %d: %d at %d becomes %d", i, n, at, back[at])
			}
		}
	}
}

// P7.6: every flat block of samples has one coefficient, and comes back.
func TestFlatBlocks(t *testing.T) {
	for n := least; n <= most; n++ {
		coeffs, e := cosine.Forward(flat(n))
		if coeffs != (api.Block{0: 8 * n}) || e != api.OK {
			t.Errorf("Forward of %d everywhere = %v, %v", n, coeffs, e)
		}
		if back, e := cosine.Inverse(coeffs); back != flat(n) || e != api.OK {
			t.Errorf("Inverse of %d at 0 = %v, %v", 8*n, back, e)
		}
	}
}

// P7.6: the transform of the transposed block is the transposed transform.
func TestTransposedBlocks(t *testing.T) {
	for _, way := range both() {
		for i, b := range append(sampleBlocks(), wideBlocks()...) {
			got, e := way.of(b)
			turned, f := way.of(transposed(b))
			if turned != transposed(got) || e != api.OK || f != api.OK {
				t.Errorf("%s of block %d: %v, %v; transposed %v, %v", way.name, i, got, e, turned, f)
			}
		}
	}
}

// G3, G6: what is done to a result, or called between, changes no later answer.
func TestAnswersStayTheSame(t *testing.T) {
	b := sampleBlocks()[70]
	for _, way := range both() {
		want := way.byDefinition(b)
		for i := range 64 {
			got, e := way.of(b)
			if got != want || e != api.OK {
				t.Fatalf("call %d of %s = %v, %v, want %v", i, way.name, got, e, want)
			}
			got[i]++
			cosine.Forward(got)
			cosine.Inverse(with(got, i, bound+1))
			cosine.Factor(i, i%8)
		}
	}
}
