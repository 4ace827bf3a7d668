package zigzag_test

import (
	"math"
	"math/rand/v2"
	"slices"
	"testing"

	"tintype/api"
	"tintype/zigzag"
)

// stepOf is the step at which each element is visited, in index order, as figure A.6 of ITU-T T.81 draws it.
var stepOf = api.Block{
	0, 1, 5, 6, 14, 15, 27, 28,
	2, 4, 7, 13, 16, 26, 29, 42,
	3, 8, 12, 17, 25, 30, 41, 43,
	9, 11, 18, 24, 31, 40, 44, 53,
	10, 19, 23, 32, 39, 45, 52, 54,
	20, 22, 33, 38, 46, 51, 55, 60,
	21, 34, 37, 47, 50, 56, 59, 61,
	35, 36, 48, 49, 57, 58, 62, 63,
}

// wrongs are neither steps nor indices; the lowest bits of some would be.
var wrongs = []int{
	-1, -2, -8, -63, -64, -65, -128, -256, -1 << 8, -1<<16 + 3, -1 << 31, -1<<32 + 3, -1<<63 + 3, math.MinInt,
	64, 65, 71, 72, 127, 128, 255, 256, 256 + 3, 1<<16 + 3, 1 << 31, 1<<32 - 1, 1 << 32, 1<<32 + 3, math.MaxInt - 1, math.MaxInt,
}

// values are elements that are not 0; the lowest bits of some are.
var values = []int{
	1, -1, 2, -2, 64, -64, 255, -255, 256, -256, 32767, -32768, 1 << 20, -1 << 20, 1 << 31, -1 << 31, 1 << 32, -1 << 32, 1<<62 + 1, math.MaxInt, math.MinInt,
}

// unlike is a block of 64 unlike numbers of either sign.
func unlike() api.Block {
	var b api.Block
	for at := range b {
		b[at] = (at + 3) * (at + 3)
		if at%3 == 0 {
			b[at] = -b[at]
		}
	}
	b[0], b[63] = math.MinInt, math.MaxInt
	return b
}

// blocks are blocks of many kinds: zeros, unlike numbers, one element that is not 0, and mixed ones.
func blocks() []api.Block {
	all := []api.Block{{}, unlike(), stepOf}
	for i := range 64 {
		var one, full api.Block
		one[i] = values[i%len(values)]
		for at := range full {
			full[at] = at - i
		}
		all = append(all, one, full)
	}
	from := rand.New(rand.NewPCG(5, 64))
	for i := range 200 {
		var b api.Block
		for at := range b {
			if from.IntN(200) >= i {
				b[at] = int(from.Uint64())
			}
		}
		all = append(all, b)
	}
	return all
}

// P5.1: every step and every index, against the figure.
func TestAtAndPlaceFollowTheFigure(t *testing.T) {
	for at, n := range stepOf {
		if got := zigzag.At(n); got != at {
			t.Errorf("At(%d) = %d, want %d", n, got, at)
		}
		if got := zigzag.Place(at); got != n {
			t.Errorf("Place(%d) = %d, want %d", at, got, n)
		}
	}
}

// P5.1: the examples of the chapter.
func TestAtAndPlaceOfTheExamples(t *testing.T) {
	for n, want := range map[int]int{0: 0, 1: 1, 2: 8, 3: 16, 63: 63, 64: -1} {
		if got := zigzag.At(n); got != want {
			t.Errorf("At(%d) = %d, want %d", n, got, want)
		}
	}
	for at, want := range map[int]int{8: 2, 9: 4, 2: 5} {
		if got := zigzag.Place(at); got != want {
			t.Errorf("Place(%d) = %d, want %d", at, got, want)
		}
	}
}

// P5.1: what is not from 0 to 63 is neither a step nor an index.
func TestAtAndPlaceOfWrongArguments(t *testing.T) {
	for _, n := range wrongs {
		if got := zigzag.At(n); got != -1 {
			t.Errorf("At(%d) = %d, want -1", n, got)
		}
		if got := zigzag.Place(n); got != -1 {
			t.Errorf("Place(%d) = %d, want -1", n, got)
		}
	}
}

// P5.1: the definition itself: the diagonals by their sums, each in the direction that its sum asks for.
func TestDiagonalsByDefinition(t *testing.T) {
	n := 0
	for sum := range 15 {
		var rows []int
		for row := range 8 {
			if col := sum - row; 0 <= col && col < 8 {
				rows = append(rows, row)
			}
		}
		if sum%2 == 0 {
			slices.Reverse(rows)
		}
		for _, row := range rows {
			if got, want := zigzag.At(n), 8*row+sum-row; got != want {
				t.Errorf("diagonal %d, row %d: At(%d) = %d, want %d", sum, row, n, got, want)
			}
			n++
		}
	}
	if n != 64 {
		t.Fatalf("%d steps, want 64", n)
	}
}

// P5.1: the longest diagonal has a sum that is odd: it goes from the top right element to the bottom left one.
func TestEndsOfTheLongestDiagonal(t *testing.T) {
	for n, at := range map[int]int{27: 6, 28: 7, 29: 14, 34: 49, 35: 56, 36: 57} {
		if got := zigzag.At(n); got != at {
			t.Errorf("At(%d) = %d, want %d", n, got, at)
		}
		if got := zigzag.Place(at); got != n {
			t.Errorf("Place(%d) = %d, want %d", at, got, n)
		}
	}
}

// P5.1: At and Place are inverse: each step has an element of its own.
func TestAtAndPlaceAreInverse(t *testing.T) {
	for i := range 64 {
		if got := zigzag.Place(zigzag.At(i)); got != i {
			t.Errorf("Place(At(%d)) = %d", i, got)
		}
		if got := zigzag.At(zigzag.Place(i)); got != i {
			t.Errorf("At(Place(%d)) = %d", i, got)
		}
	}
}

// P5.2: each element of any block lands where the figure says.
func TestToAndFromFollowTheFigure(t *testing.T) {
	for i, b := range blocks() {
		to, from := zigzag.To(b), zigzag.From(b)
		for at, n := range stepOf {
			if to[n] != b[at] {
				t.Errorf("block %d: To has %d at step %d, want %d", i, to[n], n, b[at])
			}
			if from[at] != b[n] {
				t.Errorf("block %d: From has %d at index %d, want %d", i, from[at], at, b[n])
			}
		}
	}
}

// P5.2: a block that holds its own indices, or steps, is told by either call.
func TestToAndFromOfIndicesAndSteps(t *testing.T) {
	var rising api.Block
	for i := range rising {
		rising[i] = i
	}
	if got := zigzag.To(stepOf); got != rising {
		t.Errorf("To of the steps = %v, want them rising", got)
	}
	if got := zigzag.From(rising); got != stepOf {
		t.Errorf("From of rising steps = %v, want %v", got, stepOf)
	}
	for n, at := range zigzag.To(rising) {
		if want := zigzag.At(n); at != want {
			t.Errorf("To of the indices has %d at step %d, want %d", at, n, want)
		}
	}
}

// P5.3: a block of zeros has no last step.
func TestLastOfZeros(t *testing.T) {
	if got := zigzag.Last(api.Block{}); got != -1 {
		t.Errorf("Last of zeros = %d, want -1", got)
	}
}

// P5.3: a block whose only nonzero element is any one of them, of either sign and any size.
func TestLastOfOneElement(t *testing.T) {
	for at, n := range stepOf {
		for _, v := range values {
			var b api.Block
			b[at] = v
			if got := zigzag.Last(b); got != n {
				t.Errorf("Last of only %d at index %d = %d, want %d", v, at, got, n)
			}
		}
	}
}

// P5.3: the example of the chapter.
func TestLastOfTheExample(t *testing.T) {
	if got := zigzag.Last(api.Block{16: 1}); got != 3 {
		t.Errorf("Last of a 1 at index 16 = %d, want 3", got)
	}
}

// P5.3: of several nonzero elements the last step counts, not the greatest index, and no element is weighed against another.
func TestLastOfSeveralElements(t *testing.T) {
	for _, c := range []struct {
		b    api.Block
		want int
	}{
		{api.Block{0: 1, 63: -1}, 63},
		{api.Block{0: 1, 1: -1}, 1},
		{api.Block{7: 1, 56: 1}, 35},
		{api.Block{6: 1, 7: -1}, 28},
		{api.Block{2: 1, 16: 1}, 5},
		{api.Block{2: -1, 16: 9, 9: 5}, 5},
		{api.Block{7: 3, 48: -3}, 28},
		{api.Block{55: -1, 62: 1}, 62},
		{api.Block{47: 1, 61: -1}, 60},
	} {
		if got := zigzag.Last(c.b); got != c.want {
			t.Errorf("Last(%v) = %d, want %d", c.b, got, c.want)
		}
	}
	for i := range 64 {
		for j := range i {
			var b api.Block
			b[i], b[j] = 1, -1
			if got, want := zigzag.Last(b), max(stepOf[i], stepOf[j]); got != want {
				t.Errorf("Last of elements at %d and %d = %d, want %d", i, j, got, want)
			}
		}
	}
}

// P5.3: any block, against what the figure says of its elements.
func TestLastOfAnyBlock(t *testing.T) {
	for i, b := range blocks() {
		want := -1
		for at, v := range b {
			if v != 0 {
				want = max(want, stepOf[at])
			}
		}
		if got := zigzag.Last(b); got != want {
			t.Errorf("block %d: Last = %d, want %d", i, got, want)
		}
	}
}

// P5.4: there and back, either way round.
func TestRoundTrip(t *testing.T) {
	for i, b := range blocks() {
		if got := zigzag.From(zigzag.To(b)); got != b {
			t.Errorf("block %d: From(To) = %v, want %v", i, got, b)
		}
		if got := zigzag.To(zigzag.From(b)); got != b {
			t.Errorf("block %d: To(From) = %v, want %v", i, got, b)
		}
	}
}

// P5.5: a step goes to a neighbour, and never stays.
func TestStepsAreToNeighbours(t *testing.T) {
	for n := 1; n < 64; n++ {
		was, is := zigzag.At(n-1), zigzag.At(n)
		rows, cols := is/8-was/8, is%8-was%8
		if max(rows, -rows, cols, -cols) != 1 {
			t.Errorf("step %d goes %d rows and %d columns", n, rows, cols)
		}
	}
}

// P5.5: an element and the one at the transposed position are visited as far from the two ends of one diagonal.
func TestTransposedOnOneDiagonal(t *testing.T) {
	for row := range 8 {
		for col := range 8 {
			first, last := 64, -1
			for r := range 8 {
				if c := row + col - r; 0 <= c && c < 8 {
					first, last = min(first, stepOf[8*r+c]), max(last, stepOf[8*r+c])
				}
			}
			n, turned := zigzag.Place(8*row+col), zigzag.Place(8*col+row)
			if n < first || n > last || n+turned != first+last {
				t.Errorf("row %d, column %d: steps %d and transposed %d, of a diagonal from %d to %d", row, col, n, turned, first, last)
			}
		}
	}
}

// G3, G6: what is done to a result, or called between, changes no later answer.
func TestAnswersStayTheSame(t *testing.T) {
	b := unlike()
	to, from := zigzag.To(b), zigzag.From(b)
	for i := range 64 {
		changed := zigzag.To(b)
		changed[i]++
		zigzag.From(changed)
		zigzag.Last(changed)
		zigzag.At(i - 1)
		zigzag.Place(i + 1)
		if b != unlike() || zigzag.To(b) != to || zigzag.From(b) != from {
			t.Fatalf("call %d: another answer", i)
		}
	}
}
