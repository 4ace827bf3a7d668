package raster_test

import (
	"bytes"
	"slices"
	"testing"

	"tintype/api"
	"tintype/raster"
)

// P9.1: a picture has both sides in bounds, and just the bytes for them.
func TestMay(t *testing.T) {
	for _, r := range []api.Raster{
		{W: 1, H: 1, Pix: []byte{1, 2, 3}}, {W: 1, H: 1, Pix: make([]byte, 3, 100)}, {W: 2, H: 3, Pix: make([]byte, 18)}, {W: 3, H: 2, Pix: make([]byte, 18)}, {W: 6, H: 1, Pix: make([]byte, 18)},
		{W: 4096, H: 1, Pix: make([]byte, 3*4096)}, {W: 1, H: 4096, Pix: make([]byte, 3*4096)}, {W: 4095, H: 2, Pix: make([]byte, 6*4095)}, {W: 4096, H: 4096, Pix: make([]byte, 3*4096*4096)},
	} {
		if !raster.May(r) {
			t.Errorf("May of %d by %d with %d bytes is false", r.W, r.H, len(r.Pix))
		}
	}
	for _, r := range notPictures() {
		if raster.May(r) {
			t.Errorf("May of %d by %d with %d bytes is true", r.W, r.H, len(r.Pix))
		}
	}
}

// P9.1: all numbers of bytes beside the right one.
func TestMayOfEachNumberOfBytes(t *testing.T) {
	for n := range 100 {
		for w := -2; w < 9; w++ {
			for h := -2; h < 9; h++ {
				want := w > 0 && h > 0 && n == 3*w*h
				if got := raster.May(api.Raster{W: w, H: h, Pix: make([]byte, n)}); got != want {
					t.Errorf("May of %d by %d with %d bytes = %v", w, h, n, got)
				}
			}
		}
	}
}

// P9.1: each pixel, and those about the picture, which it does not have.
func TestAt(t *testing.T) {
	for _, size := range [][2]int{{1, 1}, {2, 1}, {1, 2}, {3, 2}, {2, 3}, {5, 7}} {
		r := mixed(size[0], size[1])
		for y := -3; y < r.H+3; y++ {
			for x := -3; x < r.W+3; x++ {
				want, has := [3]byte{}, x >= 0 && y >= 0 && x < r.W && y < r.H
				if has {
					want = pixelOf(r, x, y)
				}
				if got, ok := raster.At(r, x, y); ok != has || got != want {
					t.Errorf("At %d, %d of %d by %d = %v, %v, want %v, %v", x, y, r.W, r.H, got, ok, want, has)
				}
			}
		}
	}
}

// P9.1: a picture written out; the pixels just inside and just outside of each side.
func TestAtOfAWrittenPicture(t *testing.T) {
	r := api.Raster{W: 3, H: 2, Pix: []byte{1, 2, 3, 4, 5, 6, 7, 8, 9, 10, 11, 12, 13, 14, 15, 16, 17, 18}}
	for _, c := range []struct {
		x, y int
		want [3]byte
		ok   bool
	}{
		{0, 0, [3]byte{1, 2, 3}, true}, {1, 0, [3]byte{4, 5, 6}, true}, {2, 0, [3]byte{7, 8, 9}, true}, {0, 1, [3]byte{10, 11, 12}, true}, {2, 1, [3]byte{16, 17, 18}, true},
		{-1, 0, [3]byte{}, false}, {3, 0, [3]byte{}, false}, {0, -1, [3]byte{}, false}, {0, 2, [3]byte{}, false}, {-1, 1, [3]byte{}, false}, {3, 1, [3]byte{}, false}, {2, -1, [3]byte{}, false}, {2, 2, [3]byte{}, false}, {1, 2, [3]byte{}, false}, {4, -1, [3]byte{}, false}, {-3, 1, [3]byte{}, false},
	} {
		if got, ok := raster.At(r, c.x, c.y); got != c.want || ok != c.ok {
			t.Errorf("At %d, %d = %v, %v, want %v, %v", c.x, c.y, got, ok, c.want, c.ok)
		}
	}
}

// P9.1: numbers far beyond, also those whose product with a side wraps round.
func TestAtFarBeyond(t *testing.T) {
	r := mixed(4, 4)
	for _, n := range wrongSides {
		if n == 0 {
			continue
		}
		for _, at := range [][2]int{{n, 0}, {0, n}, {n, n}, {n, 3}, {3, n}, {n, -n}, {-n, n}} {
			if got, ok := raster.At(r, at[0], at[1]); ok || got != [3]byte{} {
				t.Errorf("At %d, %d = %v, %v", at[0], at[1], got, ok)
			}
		}
	}
}

// P9.1: what is no picture has no pixels, though it has bytes.
func TestAtOfNoPicture(t *testing.T) {
	for _, r := range notPictures() {
		for _, at := range [][2]int{{0, 0}, {1, 0}, {0, 1}, {-1, 0}} {
			if got, ok := raster.At(r, at[0], at[1]); ok || got != [3]byte{} {
				t.Errorf("At %d, %d of %d by %d with %d bytes = %v, %v", at[0], at[1], r.W, r.H, len(r.Pix), got, ok)
			}
		}
	}
}

// P9.1: the last pixels of the greatest pictures.
func TestAtOfTheGreatest(t *testing.T) {
	for _, size := range [][2]int{{4096, 1}, {1, 4096}, {4096, 4096}} {
		r := api.Raster{W: size[0], H: size[1], Pix: make([]byte, 3*size[0]*size[1])}
		copy(r.Pix[len(r.Pix)-3:], []byte{7, 8, 9})
		if got, ok := raster.At(r, r.W-1, r.H-1); got != [3]byte{7, 8, 9} || !ok {
			t.Errorf("the last pixel of %d by %d is %v, %v", r.W, r.H, got, ok)
		}
		for _, at := range [][2]int{{r.W, 0}, {0, r.H}, {r.W, r.H - 1}, {r.W - 1, r.H}} {
			if got, ok := raster.At(r, at[0], at[1]); got != [3]byte{} || ok {
				t.Errorf("pixel %d, %d of %d by %d is %v, %v", at[0], at[1], r.W, r.H, got, ok)
			}
		}
	}
}

// P9.2: the examples of the chapter, and sizes of each kind.
func TestFit(t *testing.T) {
	for _, c := range []struct{ w, h, wide, high, fitWide, fitHigh int }{
		{4000, 3000, 160, 120, 160, 120}, {100, 50, 160, 120, 100, 50}, {4096, 1, 16, 16, 16, 1}, // the examples
		{1, 1, 1, 1, 1, 1}, {160, 120, 160, 120, 160, 120}, {160, 1, 160, 120, 160, 1}, {1, 120, 160, 120, 1, 120}, {4096, 4096, 4096, 4096, 4096, 4096}, // fit already
		{161, 120, 160, 120, 160, 119}, {320, 100, 160, 120, 160, 50}, {200, 120, 160, 120, 160, 96}, {200, 130, 160, 120, 160, 104}, // by the width
		{160, 121, 160, 120, 158, 120}, {100, 320, 160, 120, 37, 120}, {161, 121, 160, 120, 159, 120}, {3000, 4000, 160, 120, 90, 120}, // by the height
		{320, 240, 160, 120, 160, 120}, {4, 2, 2, 1, 2, 1}, {4096, 4096, 17, 17, 17, 17}, {3, 3, 2, 2, 2, 2}, {6, 9, 4, 6, 4, 6}, // by both
		{1, 4096, 16, 16, 1, 16}, {4096, 255, 16, 16, 16, 1}, {4096, 256, 16, 16, 16, 1}, {4096, 511, 16, 16, 16, 1}, {4096, 512, 16, 16, 16, 2}, {255, 4096, 16, 16, 1, 16}, {512, 4096, 16, 16, 2, 16}, {511, 4096, 16, 16, 1, 16}, // about 0
		{4096, 4095, 4095, 4096, 4095, 4094}, {4095, 4096, 4096, 4095, 4094, 4095}, {4096, 4096, 4096, 1, 1, 1}, {4096, 4096, 1, 4096, 1, 1}, {4096, 1, 4095, 1, 4095, 1}, {4096, 1, 1, 4096, 1, 1},
		{10, 3, 7, 1, 3, 1}, {3, 10, 1, 7, 1, 3}, {7, 5, 5, 4, 5, 3}, {5, 7, 4, 5, 3, 5},
	} {
		if w, h, e := raster.Fit(c.w, c.h, c.wide, c.high); w != c.fitWide || h != c.fitHigh || e != api.OK {
			t.Errorf("Fit of %d %d within %d %d = %d, %d, %v, want %d, %d", c.w, c.h, c.wide, c.high, w, h, e, c.fitWide, c.fitHigh)
		}
	}
}

// P9.2: each number is held to the bounds, whatever the others are.
func TestFitOfWrongNumbers(t *testing.T) {
	for _, fine := range [][4]int{{1, 1, 1, 1}, {4096, 4096, 4096, 4096}, {4000, 3000, 160, 120}, {2, 3, 400, 500}} {
		for place := range fine {
			for _, n := range wrongSides {
				wrong := fine
				wrong[place] = n
				if w, h, e := raster.Fit(wrong[0], wrong[1], wrong[2], wrong[3]); w != 0 || h != 0 || e != api.ErrArg {
					t.Errorf("Fit of %v = %d, %d, %v", wrong, w, h, e)
				}
				wrong[(place+1)%4] = n
				if w, h, e := raster.Fit(wrong[0], wrong[1], wrong[2], wrong[3]); w != 0 || h != 0 || e != api.ErrArg {
					t.Errorf("Fit of %v = %d, %d, %v", wrong, w, h, e)
				}
			}
		}
	}
}

// P9.2, P9.7: all small sizes, and some great ones, by the definition and its consequences.
func TestFitByDefinition(t *testing.T) {
	sides := []int{1, 2, 3, 4, 5, 6, 7, 8, 9, 10, 11, 12, 16, 17, 63, 100, 119, 120, 121, 159, 160, 161, 1000, 2047, 2048, 4095, 4096}
	for _, w := range sides {
		for _, h := range sides {
			for _, wide := range sides {
				for _, high := range sides {
					fitWide, fitHigh, e := raster.Fit(w, h, wide, high)
					wantWide, wantHigh := fittingSize(w, h, wide, high)
					if fitWide != wantWide || fitHigh != wantHigh || e != api.OK {
						t.Fatalf("Fit of %d %d within %d %d = %d, %d, %v, want %d, %d", w, h, wide, high, fitWide, fitHigh, e, wantWide, wantHigh)
					}
					if min(fitWide, fitHigh) < 1 || fitWide > min(w, wide) || fitHigh > min(h, high) || fitWide != wide && fitWide != w && fitHigh != high && fitHigh != h {
						t.Fatalf("%d by %d does not fit within %d by %d for %d by %d", fitWide, fitHigh, wide, high, w, h)
					}
				}
			}
		}
	}
}

// fittingSize is the size by the definition, its quotients counted out.
func fittingSize(w, h, wide, high int) (int, int) {
	quotient := func(n, by int) int {
		q := 1
		for (q+1)*by <= n {
			q++
		}
		return q
	}
	if w <= wide && h <= high {
		return w, h
	}
	if w*high >= h*wide {
		return wide, quotient(h*wide, w)
	}
	return quotient(w*high, h), high
}

// P9.3: all three, from each small size to each small size, by the definition.
func TestResizesByDefinition(t *testing.T) {
	for _, c := range resizes() {
		for w := 1; w < 7; w++ {
			for h := 1; h < 7; h++ {
				r := mixed(w, h)
				for wide := -1; wide < 9; wide++ {
					for high := -1; high < 9; high++ {
						check(t, c, r, wide, high)
					}
				}
			}
		}
	}
}

// P9.3: greater pictures, whose boxes are of several sizes.
func TestResizesOfGreaterPictures(t *testing.T) {
	r := mixed(37, 23)
	for _, size := range [][2]int{{37, 23}, {36, 22}, {1, 1}, {1, 23}, {37, 1}, {5, 7}, {16, 16}, {18, 12}, {19, 11}, {38, 24}, {64, 32}, {37, 24}, {38, 23}, {100, 23}, {37, 100}, {38, 22}, {36, 24}} {
		for _, c := range resizes() {
			check(t, c, r, size[0], size[1])
		}
	}
}

// P9.3: sides of 1 and of 4096, in both dimensions.
func TestResizesAtTheLimits(t *testing.T) {
	one, wide, high := mixed(1, 1), mixed(4096, 1), mixed(1, 4096)
	for _, c := range []struct {
		name       string
		r, resized api.Raster
	}{
		{"Box", wide, plain(1, 1, meanOf(wide, 1, 1, 0, 0))}, {"Box", high, plain(1, 1, meanOf(high, 1, 1, 0, 0))}, {"Box", wide, wide}, {"Box", high, high},
		{"Pad", one, plain(4096, 1, pixelOf(one, 0, 0))}, {"Pad", one, plain(1, 4096, pixelOf(one, 0, 0))}, {"Pad", wide, wide}, {"Pad", high, high},
		{"Pad", wide, picture(4096, 3, func(x, y int) [3]byte { return pixelOf(wide, x, 0) })}, {"Pad", high, picture(3, 4096, func(x, y int) [3]byte { return pixelOf(high, 0, y) })},
		{"Cut", wide, api.Raster{W: 1, H: 1, Pix: wide.Pix[:3]}}, {"Cut", high, api.Raster{W: 1, H: 1, Pix: high.Pix[:3]}}, {"Cut", wide, wide}, {"Cut", high, high},
		{"Cut", wide, api.Raster{W: 4095, H: 1, Pix: wide.Pix[:3*4095]}}, {"Cut", high, api.Raster{W: 1, H: 4095, Pix: high.Pix[:3*4095]}},
	} {
		if got, e := find(c.name).of(c.r, c.resized.W, c.resized.H); e != api.OK || !same(got, c.resized) {
			t.Errorf("%s of %d by %d to %d by %d is wrong, %v", c.name, c.r.W, c.r.H, c.resized.W, c.resized.H, e)
		}
	}
	for _, c := range resizes() {
		for _, r := range []api.Raster{one, wide, high} {
			for _, size := range [][2]int{{4097, 1}, {1, 4097}, {4097, 4097}, {4096, 0}, {0, 4096}, {4096, -1}, {-1, 4096}} {
				if got, e := c.of(r, size[0], size[1]); e != api.ErrArg || !isNone(got) {
					t.Errorf("%s of %d by %d to %v = %v, %v", c.name, r.W, r.H, size, got, e)
				}
			}
		}
	}
}

// find is the resize of the name.
func find(name string) resize {
	all := resizes()
	return all[slices.IndexFunc(all, func(c resize) bool { return c.name == name })]
}

// P9.3: all of the greatest picture: sums that need more than 32 bits.
func TestResizesOfTheGreatestPicture(t *testing.T) {
	r := api.Raster{W: 4096, H: 4096, Pix: bytes.Repeat([]byte{255, 254, 253}, 4096*4096)}
	box, e := raster.Box(r, 1, 1)
	if e != api.OK || !same(box, api.Raster{W: 1, H: 1, Pix: []byte{255, 254, 253}}) {
		t.Errorf("Box = %v, %v", box, e)
	}
	pad, e := raster.Pad(api.Raster{W: 1, H: 1, Pix: []byte{255, 254, 253}}, 4096, 4096)
	if e != api.OK || !same(pad, r) {
		t.Errorf("Pad to the greatest picture is wrong, %v", e)
	}
	cut, e := raster.Cut(r, 4096, 4096)
	if e != api.OK || !same(cut, r) {
		t.Errorf("Cut of the greatest picture is wrong, %v", e)
	}
}

// P9.3: the example of the chapter, boxes of unlike sizes side by side, and means about a half.
func TestBoxOfWrittenPictures(t *testing.T) {
	for _, c := range []struct{ r, want api.Raster }{
		{api.Raster{W: 2, H: 1, Pix: []byte{10, 20, 30, 11, 21, 33}}, api.Raster{W: 1, H: 1, Pix: []byte{11, 21, 32}}}, // the example
		{row(1, 2, 4), row(1, 3)}, {column(1, 2, 4), column(1, 3)}, // boxes of one and of two
		{row(0, 10, 20, 30, 40), row(5, 30)}, {column(0, 10, 20, 30, 40), column(5, 30)},
		{row(0, 10, 20, 30, 40), row(0, 15, 35)}, {column(0, 10, 20, 30, 40), column(0, 15, 35)},
		{row(0, 10, 20, 30, 40), row(0, 10, 20, 35)}, {row(0, 10, 20, 30, 40, 50, 60), row(5, 25, 50)},
		{row(0, 1), row(1)}, {row(0, 0, 1), row(0)}, {row(0, 1, 1), row(1)}, {row(0, 0, 1, 1), row(0, 1)}, // halves, and others
		{column(0, 1, 0, 1), column(1, 1)}, {row(0, 0, 0, 1), row(0, 1)},
		{api.Raster{W: 2, H: 2, Pix: []byte{0, 0, 0, 0, 0, 1, 0, 1, 1, 1, 1, 1}}, dot(0, 1, 1)},           // a quarter, a half, three quarters
		{api.Raster{W: 5, H: 1, Pix: []byte{1, 1, 9, 0, 1, 9, 1, 0, 9, 0, 0, 9, 0, 1, 11}}, dot(0, 1, 9)}, // 2/5, 3/5, 9 2/5
		{row(254, 255), row(255)}, {row(255, 255, 254), row(255)}, {row(254, 254, 255), row(254)}, {row(255, 255), row(255)}, {row(0, 0), row(0)}, {row(0, 255), row(128)},
	} {
		if got, e := raster.Box(c.r, c.want.W, c.want.H); e != api.OK || !same(got, c.want) {
			t.Errorf("Box of %v = %v, %v, want %v", c.r, got, e, c.want)
		}
	}
}

// dot is a picture of one pixel.
func dot(r, g, b byte) api.Raster {
	return plain(1, 1, [3]byte{r, g, b})
}

// P9.3: means just at a half, and as near below it as the number of colours lets them be, of all numbers of colours up to 64.
func TestBoxAboutHalves(t *testing.T) {
	for n := 2; n <= 64; n++ {
		for ones := range n + 1 {
			greys := append(bytes.Repeat([]byte{101}, ones), bytes.Repeat([]byte{100}, n-ones)...)
			want := byte(100)
			if 2*ones >= n {
				want = 101
			}
			for _, r := range []api.Raster{row(greys...), column(greys...)} {
				if got, e := raster.Box(r, 1, 1); e != api.OK || !same(got, row(want)) {
					t.Errorf("Box of %d times 101 and %d times 100 = %v, %v, want %d", ones, n-ones, got, e, want)
				}
			}
		}
	}
}

// P9.3: pictures written out, padded.
func TestPadOfWrittenPictures(t *testing.T) {
	square := api.Raster{W: 2, H: 2, Pix: []byte{1, 2, 3, 4, 5, 6, 7, 8, 9, 10, 11, 12}}
	for _, c := range []struct{ r, want api.Raster }{
		{dot(1, 2, 3), api.Raster{W: 2, H: 1, Pix: []byte{1, 2, 3, 1, 2, 3}}}, // the example
		{dot(1, 2, 3), api.Raster{W: 1, H: 2, Pix: []byte{1, 2, 3, 1, 2, 3}}},
		{row(1, 2), row(1, 2, 2, 2)}, {column(1, 2), column(1, 2, 2)},
		{square, api.Raster{W: 3, H: 2, Pix: []byte{1, 2, 3, 4, 5, 6, 4, 5, 6, 7, 8, 9, 10, 11, 12, 10, 11, 12}}},
		{square, api.Raster{W: 2, H: 3, Pix: []byte{1, 2, 3, 4, 5, 6, 7, 8, 9, 10, 11, 12, 7, 8, 9, 10, 11, 12}}},
		{square, api.Raster{W: 3, H: 3, Pix: []byte{1, 2, 3, 4, 5, 6, 4, 5, 6, 7, 8, 9, 10, 11, 12, 10, 11, 12, 7, 8, 9, 10, 11, 12, 10, 11, 12}}},
	} {
		if got, e := raster.Pad(c.r, c.want.W, c.want.H); e != api.OK || !same(got, c.want) {
			t.Errorf("Pad of %v = %v, %v, want %v", c.r, got, e, c.want)
		}
	}
}

// P9.3: a picture written out, cropped.
func TestCutOfAWrittenPicture(t *testing.T) {
	r := api.Raster{W: 3, H: 2, Pix: []byte{1, 2, 3, 4, 5, 6, 7, 8, 9, 10, 11, 12, 13, 14, 15, 16, 17, 18}}
	for _, want := range []api.Raster{
		{W: 1, H: 1, Pix: []byte{1, 2, 3}}, {W: 2, H: 1, Pix: []byte{1, 2, 3, 4, 5, 6}}, {W: 3, H: 1, Pix: []byte{1, 2, 3, 4, 5, 6, 7, 8, 9}},
		{W: 1, H: 2, Pix: []byte{1, 2, 3, 10, 11, 12}}, {W: 2, H: 2, Pix: []byte{1, 2, 3, 4, 5, 6, 10, 11, 12, 13, 14, 15}}, r,
	} {
		if got, e := raster.Cut(r, want.W, want.H); e != api.OK || !same(got, want) {
			t.Errorf("Cut to %d by %d = %v, %v, want %v", want.W, want.H, got, e, want)
		}
	}
}

// P9.3: sizes beyond the bounds, and those that are too great or too small in one dimension, or greater in one and smaller in the other.
func TestResizesOfWrongSizes(t *testing.T) {
	for _, c := range resizes() {
		for _, r := range []api.Raster{mixed(1, 1), mixed(4, 4), mixed(2, 5)} {
			for _, n := range wrongSides {
				for _, size := range [][2]int{{n, r.H}, {r.W, n}, {n, n}, {n, 1}, {1, n}, {n, 9}, {9, n}} {
					if got, e := c.of(r, size[0], size[1]); e != api.ErrArg || !isNone(got) {
						t.Errorf("%s of %d by %d to %v = %v, %v", c.name, r.W, r.H, size, got, e)
					}
				}
			}
		}
	}
	r := mixed(4, 5)
	for name, sizes := range map[string][][2]int{
		"Box": {{5, 5}, {4, 6}, {5, 6}, {5, 4}, {3, 6}, {5, 1}, {1, 6}, {4096, 5}, {4, 4096}},
		"Pad": {{3, 5}, {4, 4}, {3, 4}, {3, 6}, {5, 4}, {3, 4096}, {4096, 4}, {1, 5}, {4, 1}},
		"Cut": {{5, 5}, {4, 6}, {5, 6}, {5, 4}, {3, 6}, {5, 1}, {1, 6}, {4096, 5}, {4, 4096}},
	} {
		for _, size := range sizes {
			if got, e := find(name).of(r, size[0], size[1]); e != api.ErrArg || !isNone(got) {
				t.Errorf("%s of 4 by 5 to %v = %v, %v", name, size, got, e)
			}
		}
	}
}

// P9.3: what is no picture is not resized, whatever the size is.
func TestResizesOfNoPicture(t *testing.T) {
	for _, c := range resizes() {
		for _, r := range notPictures() {
			for _, size := range [][2]int{{1, 1}, {r.W, r.H}, {2, 3}, {1, r.H}, {r.W, 1}, {4096, 4096}, {0, 0}} {
				if got, e := c.of(r, size[0], size[1]); e != api.ErrArg || !isNone(got) {
					t.Errorf("%s of %d by %d with %d bytes to %v = %v, %v", c.name, r.W, r.H, len(r.Pix), size, got, e)
				}
			}
		}
	}
}

// sizesOf are sizes to which a picture of 4 by 3 may be resized, its own first.
func sizesOf(c resize) [][2]int {
	if c.name == "Pad" {
		return [][2]int{{4, 3}, {5, 3}, {4, 4}, {9, 8}}
	}
	return [][2]int{{4, 3}, {3, 3}, {4, 2}, {1, 1}}
}

// P9.4: bytes that are passed stay as they are, and so do those about them.
func TestArgumentsStay(t *testing.T) {
	whole := mixed(6, 6).Pix
	kept := slices.Clone(whole)
	r := api.Raster{W: 4, H: 3, Pix: whole[6:42]}
	for _, c := range resizes() {
		for _, size := range append(sizesOf(c), [2]int{0, 3}, [2]int{4, 4097}) {
			c.of(r, size[0], size[1])
			raster.May(r)
			raster.At(r, size[0]-1, size[1]-1)
			if !bytes.Equal(whole, kept) {
				t.Fatalf("%s to %v leaves %v, want %v", c.name, size, whole, kept)
			}
		}
	}
}

// P9.4: results share memory neither with what was passed nor with each other, also where nothing changes.
func TestResultsAreNewMemory(t *testing.T) {
	for _, c := range resizes() {
		for _, size := range sizesOf(c) {
			whole := mixed(6, 6).Pix
			r := api.Raster{W: 4, H: 3, Pix: whole[:36]}
			kept := slices.Clone(whole)
			want, _ := c.byDefinition(r, size[0], size[1])
			first, e := c.of(r, size[0], size[1])
			second, again := c.of(r, size[0], size[1])
			if e != api.OK || again != api.OK {
				t.Fatalf("%s to %v: %v, %v", c.name, size, e, again)
			}
			scribble(first.Pix)
			if !bytes.Equal(whole, kept) || !same(second, want) {
				t.Errorf("%s to %v: changing a result changes the argument, or another result", c.name, size)
			}
			scribble(whole)
			if !same(second, want) {
				t.Errorf("%s to %v: changing the argument changes a result", c.name, size)
			}
			if third, _ := c.of(api.Raster{W: 4, H: 3, Pix: kept[:36]}, size[0], size[1]); !same(third, want) {
				t.Errorf("%s to %v: a later result is %v, want %v", c.name, size, third, want)
			}
		}
	}
}

// P9.5: its own size leaves a picture as it is.
func TestIdentity(t *testing.T) {
	for _, size := range [][2]int{{1, 1}, {2, 1}, {1, 2}, {3, 5}, {5, 3}, {16, 16}, {37, 23}, {4096, 2}, {2, 4096}} {
		r := mixed(size[0], size[1])
		for _, c := range resizes() {
			if got, e := c.of(r, r.W, r.H); e != api.OK || !same(got, r) {
				t.Errorf("%s of %d by %d to its own size is another picture, %v", c.name, r.W, r.H, e)
			}
		}
	}
}

// P9.5: what was padded and is cropped to its size again is as it was.
func TestPaddedAndCropped(t *testing.T) {
	for _, size := range [][2]int{{1, 1}, {2, 1}, {1, 2}, {3, 5}, {7, 4}, {17, 9}} {
		r := mixed(size[0], size[1])
		for wide := range 12 {
			for high := range 12 {
				pad, e := raster.Pad(r, r.W+wide, r.H+high)
				cut, again := raster.Cut(pad, r.W, r.H)
				if e != api.OK || again != api.OK || !same(cut, r) {
					t.Errorf("%v padded by %d and %d and cropped = %v, %v, %v", r, wide, high, cut, e, again)
				}
			}
		}
	}
}

// P9.6: an average lies within its box.
func TestAveragesLieWithinTheirBoxes(t *testing.T) {
	r := mixed(13, 11)
	for w := 1; w <= r.W; w++ {
		for h := 1; h <= r.H; h++ {
			box, e := raster.Box(r, w, h)
			if e != api.OK || !raster.May(box) {
				t.Fatalf("Box to %d by %d = %v, %v", w, h, box, e)
			}
			for n := range w * h {
				x, y := n%w, n/w
				c := pixelOf(box, x, y)
				for i := range c {
					least, greatest := byte(255), byte(0)
					for _, colour := range boxOf(r, w, h, x, y) {
						least, greatest = min(least, colour[i]), max(greatest, colour[i])
					}
					if c[i] < least || c[i] > greatest {
						t.Errorf("Box to %d by %d: %d at %d, %d is not from %d to %d", w, h, c[i], x, y, least, greatest)
					}
				}
			}
		}
	}
}

// P9.6: one colour stays that colour.
func TestPlainPicturesStayPlain(t *testing.T) {
	for _, c := range [][3]byte{{0, 0, 0}, {255, 255, 255}, {1, 128, 254}, {127, 0, 255}} {
		r := plain(19, 14, c)
		for w := 1; w <= r.W; w++ {
			for h := 1; h <= r.H; h++ {
				if box, e := raster.Box(r, w, h); e != api.OK || !same(box, plain(w, h, c)) {
					t.Errorf("Box of %v to %d by %d = %v, %v", c, w, h, box, e)
				}
			}
		}
	}
}

// P9.7: all limits of a few sizes: it is tight in one dimension, and nothing is lost that need not be.
func TestFittingSizesAreTight(t *testing.T) {
	for _, size := range [][2]int{{4096, 4096}, {4096, 1}, {1, 4096}, {4000, 3000}, {333, 1000}, {2, 3}, {1, 1}} {
		for wide := 1; wide <= 4096; wide += 5 {
			for high := 1; high <= 4096; high += 45 {
				w, h, e := raster.Fit(size[0], size[1], wide, high)
				if e != api.OK || w < 1 || h < 1 || w > min(wide, size[0]) || h > min(high, size[1]) {
					t.Fatalf("Fit of %v within %d %d = %d, %d, %v", size, wide, high, w, h, e)
				}
				if w != wide && w != size[0] && h != high && h != size[1] {
					t.Fatalf("Fit of %v within %d %d = %d, %d: neither is at its limit", size, wide, high, w, h)
				}
			}
		}
	}
}

// G6: what is done to a result, or called between, changes no later answer.
func TestAnswersStayTheSame(t *testing.T) {
	r := mixed(4, 3)
	for i := range 32 {
		for _, c := range resizes() {
			for _, size := range sizesOf(c) {
				got, e := c.of(r, size[0], size[1])
				want, _ := c.byDefinition(r, size[0], size[1])
				if e != api.OK || !same(got, want) {
					t.Fatalf("call %d of %s to %v = %v, %v, want %v", i, c.name, size, got, e, want)
				}
				scribble(got.Pix)
				c.of(got, i, 2)
				raster.At(got, i, i)
				raster.Fit(i, 3, 5, i)
			}
		}
	}
}
