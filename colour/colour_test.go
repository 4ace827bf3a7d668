package colour_test

import (
	"bytes"
	"math"
	"slices"
	"testing"

	"tintype/colour"
)

// P8.1: numbers in bounds stay, others become the bound that is nearer.
func TestClamp(t *testing.T) {
	for n := -1000; n <= 1000; n++ {
		if got, want := colour.Clamp(n), clamped(n); got != want {
			t.Errorf("Clamp(%d) = %d, want %d", n, got, want)
		}
	}
	for _, c := range []struct{ n, want int }{{-1, 0}, {0, 0}, {1, 1}, {128, 128}, {254, 254}, {255, 255}, {256, 255}, {1<<32 + 7, 255}, {-1<<32 + 7, 0}, {math.MaxInt, 255}, {math.MinInt, 0}} {
		if got := colour.Clamp(c.n); got != c.want {
			t.Errorf("Clamp(%d) = %d, want %d", c.n, got, c.want)
		}
	}
	for _, n := range outside {
		if got, want := colour.Clamp(n), clamped(n); got != want {
			t.Errorf("Clamp(%d) = %d, want %d", n, got, want)
		}
	}
}

// P8.1: all threes of numbers in bounds, both ways, by the definition.
func TestConversionsByDefinition(t *testing.T) {
	for _, way := range both() {
		for n := range everyColour() {
			if got, want := way.at(n), way.byDefinition(n); got != want {
				t.Fatalf("%s of %v = %v, want %v", way.name, n, got, want)
			}
		}
	}
}

// P8.1: the examples of the chapter, and other colours that have a name.
func TestConversionsOfNamedColours(t *testing.T) {
	for _, c := range []struct{ rgb, ycc, back [3]int }{
		{[3]int{255, 0, 0}, [3]int{76, 85, 255}, [3]int{254, 0, 0}},       // an example
		{[3]int{0, 0, 255}, [3]int{29, 255, 107}, [3]int{0, 0, 254}},      // an example
		{[3]int{0, 255, 0}, [3]int{150, 44, 21}, [3]int{0, 255, 1}},       // green
		{[3]int{255, 255, 0}, [3]int{226, 1, 149}, [3]int{255, 255, 1}},   // yellow
		{[3]int{0, 255, 255}, [3]int{179, 171, 1}, [3]int{1, 255, 255}},   // cyan
		{[3]int{255, 0, 255}, [3]int{105, 212, 235}, [3]int{255, 0, 254}}, // magenta
		{[3]int{0, 0, 0}, [3]int{0, 128, 128}, [3]int{0, 0, 0}},
		{[3]int{255, 255, 255}, [3]int{255, 128, 128}, [3]int{255, 255, 255}},
	} {
		ways := both()
		if got := ways[0].at(c.rgb); got != c.ycc {
			t.Errorf("Luma of %v = %v, want %v", c.rgb, got, c.ycc)
		}
		if got := ways[1].at(c.ycc); got != c.back {
			t.Errorf("Paint of %v = %v, want %v", c.ycc, got, c.back)
		}
	}
}

// P8.1: sums that are just at, and just below, a half, on both sides of 0: where no sum meets it, those that are nearest to it. Sums of Paint below 0 are clamped after they are rounded.
func TestConversionsAboutHalves(t *testing.T) {
	for _, c := range []struct {
		way, result int
		n           [3]int
		off         int // what the sum is beyond a half
		want        int
	}{
		{0, 0, [3]int{0, 52, 184}, 0, 52}, {0, 0, [3]int{0, 62, 229}, -1, 62},
		{0, 1, [3]int{0, 0, 1}, 0, 129}, {0, 1, [3]int{0, 80, 54}, -16, 128}, // a half, and less
		{0, 1, [3]int{1, 1, 0}, 0, 128}, {0, 1, [3]int{0, 80, 0}, -16, 101}, // -1/2, and less than -26 1/2
		{0, 1, [3]int{3, 3, 0}, 0, 127}, {0, 1, [3]int{0, 0, 255}, 0, 255}, // -1 1/2; 127 1/2, which makes 256 before it is clamped
		{0, 1, [3]int{255, 255, 0}, 0, 1}, // -127 1/2
		{0, 2, [3]int{1, 0, 0}, 0, 129}, {0, 2, [3]int{21, 0, 123}, -107, 128},
		{0, 2, [3]int{0, 1, 1}, 0, 128}, {0, 2, [3]int{0, 1, 124}, -107, 117},
		{0, 2, [3]int{0, 3, 3}, 0, 127}, {0, 2, [3]int{255, 0, 0}, 0, 255},
		{0, 2, [3]int{0, 255, 255}, 0, 1},
		{1, 0, [3]int{0, 9, 179}, 107, 72}, {1, 0, [3]int{72, 9, 77}, -107, 0}, {1, 0, [3]int{0, 9, 77}, -107, 0},
		{1, 1, [3]int{98, 237, 212}, 6, 1}, {1, 1, [3]int{0, 19, 44}, -6, 97}, {1, 1, [3]int{0, 237, 212}, 6, 0},
		{1, 2, [3]int{0, 253, 9}, 26, 222}, {1, 2, [3]int{222, 3, 9}, -26, 0}, {1, 2, [3]int{0, 3, 9}, -26, 0},
	} {
		way := both()[c.way]
		if off := (way.sum(c.n, c.result)%one+one)%one - half; off != c.off {
			t.Fatalf("the sum of %v for the result %d of %s is %d beyond a half, want %d", c.n, c.result, way.name, off, c.off)
		}
		if got := way.at(c.n); got[c.result] != c.want {
			t.Errorf("%s of %v = %v, want %d at %d", way.name, c.n, got, c.want, c.result)
		}
	}
}

// P8.1: results are clamped, each of them on its own, and not those that just meet a bound.
func TestConversionsClampResults(t *testing.T) {
	for _, c := range []struct {
		way     int
		n, want [3]int
	}{
		{0, [3]int{0, 0, 255}, [3]int{29, 255, 107}}, {0, [3]int{0, 0, 254}, [3]int{29, 255, 107}}, // cb would be 256, and is just 255
		{0, [3]int{255, 0, 0}, [3]int{76, 85, 255}}, {0, [3]int{254, 0, 0}, [3]int{76, 85, 255}}, // cr would be 256, and is just 255
		{1, [3]int{0, 128, 0}, [3]int{0, 91, 0}}, {1, [3]int{255, 128, 255}, [3]int{255, 164, 255}}, // red would be -179, and 433
		{1, [3]int{0, 0, 0}, [3]int{0, 135, 0}}, {1, [3]int{255, 255, 255}, [3]int{255, 121, 255}}, // red and blue would be beyond
		{1, [3]int{0, 255, 255}, [3]int{178, 0, 225}}, {1, [3]int{255, 0, 0}, [3]int{76, 255, 28}}, // green would be -134, and 390
		{1, [3]int{0, 0, 128}, [3]int{0, 44, 0}}, {1, [3]int{255, 255, 128}, [3]int{255, 211, 255}}, // blue would be -227, and 480
		{1, [3]int{179, 128, 0}, [3]int{0, 255, 179}}, {1, [3]int{180, 128, 0}, [3]int{1, 255, 180}}, // red just at 0, and above
		{1, [3]int{77, 128, 255}, [3]int{255, 0, 77}}, {1, [3]int{76, 128, 255}, [3]int{254, 0, 76}}, // red just at 255, and below
	} {
		if got := both()[c.way].at(c.n); got != c.want {
			t.Errorf("%s of %v = %v, want %v", both()[c.way].name, c.n, got, c.want)
		}
	}
}

// P8.1: numbers beyond the bounds are clamped first, in each place, and all at once.
func TestConversionsClampNumbers(t *testing.T) {
	for _, way := range both() {
		for _, out := range outside {
			for n := range someColours() {
				for place := range n {
					beyond := n
					beyond[place] = out
					if got, want := way.at(beyond), way.byDefinition(beyond); got != want {
						t.Fatalf("%s of %v = %v, want %v", way.name, beyond, got, want)
					}
				}
			}
			for _, second := range outside {
				for _, third := range outside {
					n := [3]int{out, second, third}
					if got, want := way.at(n), way.at(clampedAll(n)); got != want {
						t.Fatalf("%s of %v = %v, want %v", way.name, n, got, want)
					}
				}
			}
		}
	}
}

// P8.2: both directions, in order, for few colours and for many, and every value of a byte at each place.
func TestAllConvertsEachColour(t *testing.T) {
	for _, way := range both() {
		for _, n := range []int{3, 6, 9, 12, 15, 48, 300, 768, 3 * 251 * 251} {
			pix := bytesOf(n)
			if got, want := colour.All(pix, way.paint), way.ofBytes(pix); !bytes.Equal(got, want) {
				t.Errorf("All of %d bytes for %s is wrong at %d", n, way.name, differing(got, want))
			}
		}
		for n := range 256 {
			for place := range 3 {
				pix := []byte{10, 200, 90, 10, 200, 90, 10, 200, 90}
				pix[3+place] = byte(n)
				if got, want := colour.All(pix, way.paint), way.ofBytes(pix); !bytes.Equal(got, want) {
					t.Errorf("All of %v for %s = %v, want %v", pix, way.name, got, want)
				}
			}
		}
	}
}

// differing is the first index at which two slices are not the same.
func differing(a, b []byte) int {
	for i := range min(len(a), len(b)) {
		if a[i] != b[i] {
			return i
		}
	}
	return min(len(a), len(b))
}

// P8.2: the direction, with numbers written out.
func TestAllTakesTheDirection(t *testing.T) {
	pix := []byte{255, 0, 0, 0, 0, 255, 76, 85, 255}
	if got, want := colour.All(pix, false), []byte{76, 85, 255, 29, 255, 107, 102, 215, 110}; !bytes.Equal(got, want) {
		t.Errorf("All of %v = %v, want %v", pix, got, want)
	}
	if got, want := colour.All(pix, true), []byte{76, 255, 28, 178, 0, 0, 254, 0, 0}; !bytes.Equal(got, want) {
		t.Errorf("All of %v, painted, = %v, want %v", pix, got, want)
	}
}

// P8.2: no bytes are no colours, which is no error.
func TestAllOfNoBytes(t *testing.T) {
	for _, paint := range []bool{false, true} {
		for _, pix := range [][]byte{nil, {}, make([]byte, 0, 9), bytesOf(9)[4:4]} {
			if got := colour.All(pix, paint); len(got) != 0 {
				t.Errorf("All of no bytes, %v = %v", paint, got)
			}
		}
	}
}

// P8.2: bytes that are left over make the whole nil, also where the capacity would hold what is missing.
func TestAllOfWrongLengths(t *testing.T) {
	for _, paint := range []bool{false, true} {
		for n := range 1000 {
			for _, pix := range [][]byte{bytesOf(n), bytesOf(n + 5)[:n]} {
				got := colour.All(pix, paint)
				if n%3 != 0 && got != nil || n%3 == 0 && len(got) != n {
					t.Fatalf("All of %d bytes, %v = %v", n, paint, got)
				}
			}
		}
	}
	for _, pix := range [][]byte{{1}, {1, 2}, {1, 2, 3, 4}, {1, 2, 3, 4, 5}, {255, 255, 255, 255, 255, 255, 255}} {
		if colour.All(pix, false) != nil || colour.All(pix, true) != nil {
			t.Errorf("All of %v is not nil", pix)
		}
	}
}

// P8.3: what is passed stays as it is, and so does what lies behind it.
func TestAllKeepsItsArgument(t *testing.T) {
	for _, paint := range []bool{false, true} {
		for n := range 31 {
			whole := bytesOf(40)
			kept := slices.Clone(whole)
			colour.All(whole[5:5+n], paint)
			if !bytes.Equal(whole, kept) {
				t.Errorf("All of %d bytes, %v leaves %v, want %v", n, paint, whole, kept)
			}
		}
	}
}

// P8.3: a result shares memory neither with what was passed nor with another result.
func TestAllReturnsNewMemory(t *testing.T) {
	for _, way := range both() {
		whole := bytesOf(60)
		pix := whole[:30]
		kept, want := slices.Clone(whole), way.ofBytes(pix)
		first, second := colour.All(pix, way.paint), colour.All(pix, way.paint)
		scribble(first)
		if !bytes.Equal(whole, kept) || !bytes.Equal(second, want) {
			t.Errorf("%s: changing a result changes %v to %v, %v to %v", way.name, kept, whole, want, second)
		}
		scribble(whole)
		if !bytes.Equal(second, want) {
			t.Errorf("%s: changing what was passed changes %v to %v", way.name, want, second)
		}
		if got := colour.All(kept[:30], way.paint); !bytes.Equal(got, want) {
			t.Errorf("%s: a later result is %v, want %v", way.name, got, want)
		}
	}
}

// scribble changes all bytes of b, and those that its capacity holds.
func scribble(b []byte) {
	b = b[:cap(b)]
	for i := range b {
		b[i] ^= 85
	}
}

// P8.4: there and back, within 1 of each number.
func TestRoundTrip(t *testing.T) {
	for n := range everyColour() {
		r, g, b := colour.Paint(colour.Luma(n[0], n[1], n[2]))
		for i, back := range [3]int{r, g, b} {
			if off := back - n[i]; off < -1 || off > 1 {
				t.Fatalf("%v comes back as %d, %d, %d", n, r, g, b)
			}
		}
	}
}

// P8.4: as bytes, too.
func TestRoundTripOfBytes(t *testing.T) {
	pix := bytesOf(3 * 251 * 251)
	back := colour.All(colour.All(pix, false), true)
	if len(back) != len(pix) {
		t.Fatalf("%d bytes come back as %d", len(pix), len(back))
	}
	for i, n := range pix {
		if off := int(back[i]) - int(n); off < -1 || off > 1 {
			t.Fatalf("%d at %d comes back as %d", n, i, back[i])
		}
	}
}

// P8.5: greys have no differences, and come back.
func TestGreys(t *testing.T) {
	for n := range 256 {
		if y, cb, cr := colour.Luma(n, n, n); y != n || cb != 128 || cr != 128 {
			t.Errorf("Luma of three %d = %d, %d, %d", n, y, cb, cr)
		}
		if r, g, b := colour.Paint(n, 128, 128); r != n || g != n || b != n {
			t.Errorf("Paint of %d, 128, 128 = %d, %d, %d", n, r, g, b)
		}
		grey := []byte{byte(n), byte(n), byte(n)}
		if got := colour.All(grey, false); !bytes.Equal(got, []byte{byte(n), 128, 128}) || !bytes.Equal(colour.All(got, true), grey) {
			t.Errorf("All of %v = %v", grey, got)
		}
	}
}

// P8.6: one more red, green or blue never is less light.
func TestLumaIsMonotonic(t *testing.T) {
	for n := range everyColour() {
		y, _, _ := colour.Luma(n[0], n[1], n[2])
		red, _, _ := colour.Luma(n[0]+1, n[1], n[2])
		green, _, _ := colour.Luma(n[0], n[1]+1, n[2])
		blue, _, _ := colour.Luma(n[0], n[1], n[2]+1)
		if min(red, green, blue) < y {
			t.Fatalf("y of %v is %d; with one more %d, %d, %d", n, y, red, green, blue)
		}
	}
}

// P8.6: nor is it where numbers are beyond the bounds.
func TestLumaIsMonotonicBeyondTheBounds(t *testing.T) {
	rising := append([]int{0, 1, 127, 128, 254, 255}, outside...)
	slices.Sort(rising)
	for _, second := range rising {
		for _, third := range rising {
			was := [3]int{}
			for _, n := range rising {
				red, _, _ := colour.Luma(n, second, third)
				green, _, _ := colour.Luma(second, n, third)
				blue, _, _ := colour.Luma(second, third, n)
				is := [3]int{red, green, blue}
				for i := range is {
					if is[i] < was[i] {
						t.Fatalf("y falls from %d to %d at %d in place %d beside %d and %d", was[i], is[i], n, i, second, third)
					}
				}
				was = is
			}
		}
	}
}

// P8.6: no result is beyond the bounds, and all results are met but 0 for cb and cr.
func TestResultsAreInBounds(t *testing.T) {
	for _, way := range both() {
		lowest, highest := [3]int{255, 255, 255}, [3]int{}
		for n := range everyColour() {
			for i, got := range way.at(n) {
				lowest[i], highest[i] = min(lowest[i], got), max(highest[i], got)
			}
		}
		want := [3]int{}
		if !way.paint {
			want = [3]int{0, 1, 1}
		}
		if lowest != want || highest != [3]int{255, 255, 255} {
			t.Errorf("%s: results from %v to %v", way.name, lowest, highest)
		}
		for _, first := range outside {
			for _, second := range outside {
				for _, third := range outside {
					got := way.at([3]int{first, second, third})
					if got != clampedAll(got) {
						t.Fatalf("%s of %d, %d, %d = %v", way.name, first, second, third, got)
					}
				}
			}
		}
	}
}

// G3, G6: what is done to a result, or called between, changes no later answer.
func TestAnswersStayTheSame(t *testing.T) {
	pix := bytesOf(9)
	for _, way := range both() {
		want := way.ofBytes(pix)
		for i := range 64 {
			got := colour.All(pix, way.paint)
			if !bytes.Equal(got, want) || way.at([3]int{i, 200, 90}) != way.byDefinition([3]int{i, 200, 90}) {
				t.Fatalf("call %d of All for %s = %v, want %v", i, way.name, got, want)
			}
			scribble(got)
			colour.All(got, !way.paint)
			colour.All(got[:8], way.paint)
			colour.Luma(i, -i, 4*i)
			colour.Paint(-i, 4*i, i)
		}
	}
}
