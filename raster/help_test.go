package raster_test

import (
	"math"
	"slices"
	"testing"

	"tintype/api"
	"tintype/raster"
)

// wrongSides are numbers that no side has; products of some wrap round to few, or to none.
var wrongSides = []int{0, -1, 4097, -4096, 4098, 5000, 1 << 16, -1 << 16, 1<<32 + 1, 1 << 32, -1<<32 + 1, 1 << 62, -1 << 62, 1<<62 + 1, math.MaxInt / 3, math.MaxInt - 1, math.MaxInt, math.MinInt + 1, math.MinInt}

// resize is Box, Pad or Cut, and what defines it.
type resize struct {
	name   string
	of     func(r api.Raster, w, h int) (api.Raster, api.Errno)
	colour func(r api.Raster, w, h, x, y int) [3]byte
	may    func(was, is int) bool // whether a side may become that long
}

// resizes are Box, Pad and Cut.
func resizes() []resize {
	shrinks := func(was, is int) bool { return is <= was }
	grows := func(was, is int) bool { return is >= was }
	return []resize{
		{"Box", raster.Box, meanOf, shrinks},
		{"Pad", raster.Pad, nearestOf, grows},
		{"Cut", raster.Cut, func(r api.Raster, w, h, x, y int) [3]byte { return pixelOf(r, x, y) }, shrinks},
	}
}

// byDefinition is what the chapter makes of the picture.
func (c *resize) byDefinition(r api.Raster, w, h int) (api.Raster, api.Errno) {
	for i, side := range []int{w, h} {
		if side < 1 || side > 4096 || !c.may([]int{r.W, r.H}[i], side) {
			return api.Raster{}, api.ErrArg
		}
	}
	return picture(w, h, func(x, y int) [3]byte { return c.colour(r, w, h, x, y) }), api.OK
}

// pixelOf is the colour of a pixel that the picture has.
func pixelOf(r api.Raster, x, y int) [3]byte {
	return [3]byte{r.Pix[3*(y*r.W+x)], r.Pix[3*(y*r.W+x)+1], r.Pix[3*(y*r.W+x)+2]}
}

// nearestOf is the colour of the pixel that is nearest to x, y.
func nearestOf(r api.Raster, w, h, x, y int) [3]byte {
	if x >= r.W {
		x = r.W - 1
	}
	if y >= r.H {
		y = r.H - 1
	}
	return pixelOf(r, x, y)
}

// boxOf are the colours of box x, y of w by h: those whose column and row begin where the box does, or behind that, and before the next one does.
func boxOf(r api.Raster, w, h, x, y int) (colours [][3]byte) {
	for row := range r.H {
		for column := range r.W {
			if column >= x*r.W/w && column < (x+1)*r.W/w && row >= y*r.H/h && row < (y+1)*r.H/h {
				colours = append(colours, pixelOf(r, column, row))
			}
		}
	}
	return colours
}

// meanOf is the mean colour of box x, y: the number that is at most half of one away, the greater one of two.
func meanOf(r api.Raster, w, h, x, y int) (c [3]byte) {
	colours := boxOf(r, w, h, x, y)
	for i := range c {
		sum := 0
		for _, colour := range colours {
			sum += int(colour[i])
		}
		mean := 0
		for 2*(sum-mean*len(colours)) >= len(colours) {
			mean++
		}
		c[i] = byte(mean)
	}
	return c
}

// picture is w by h pixels, coloured by a function.
func picture(w, h int, at func(x, y int) [3]byte) api.Raster {
	r := api.Raster{W: w, H: h}
	for n := range w * h {
		c := at(n%w, n/w)
		r.Pix = append(r.Pix, c[0], c[1], c[2])
	}
	return r
}

// mixed is a picture whose bytes differ from those about them.
func mixed(w, h int) api.Raster {
	return picture(w, h, func(x, y int) [3]byte {
		n := 3 * (y*w + x)
		return [3]byte{byte(n * 89 % 251), byte((n + 1) * 89 % 251), byte((n + 2) * 97 % 256)}
	})
}

// plain is a picture of one colour.
func plain(w, h int, c [3]byte) api.Raster {
	return picture(w, h, func(x, y int) [3]byte { return c })
}

// row is a picture of one row of greys.
func row(greys ...byte) api.Raster {
	return picture(len(greys), 1, func(x, y int) [3]byte { return [3]byte{greys[x], greys[x], greys[x]} })
}

// column is a picture of one column of greys.
func column(greys ...byte) api.Raster {
	r := row(greys...)
	r.W, r.H = r.H, r.W
	return r
}

// same tells whether two pictures are equal.
func same(a, b api.Raster) bool {
	return a.W == b.W && a.H == b.H && slices.Equal(a.Pix, b.Pix)
}

// isNone tells whether r has nothing.
func isNone(r api.Raster) bool {
	return r.W == 0 && r.H == 0 && r.Pix == nil
}

// check holds a resize to its definition.
func check(t *testing.T, c resize, r api.Raster, w, h int) {
	t.Helper()
	got, e := c.of(r, w, h)
	want, wanted := c.byDefinition(r, w, h)
	if e != wanted || !same(got, want) {
		t.Errorf("%s of %d by %d to %d by %d = %v, %v, want %v, %v", c.name, r.W, r.H, w, h, got, e, want, wanted)
	}
}

// scribble changes all bytes of b, and those that its capacity holds.
func scribble(b []byte) {
	b = b[:cap(b)]
	for i := range b {
		b[i] ^= 85
	}
}

// notPictures are no pictures, for each reason.
func notPictures() []api.Raster {
	none := []api.Raster{
		{}, {W: 1, H: 1}, {W: 1, H: 1, Pix: []byte{}}, {Pix: []byte{1, 2, 3}}, {W: 1, Pix: []byte{1, 2, 3}}, {H: 1, Pix: []byte{1, 2, 3}},
		{W: 1, H: 1, Pix: []byte{1}}, {W: 1, H: 1, Pix: []byte{1, 2}}, {W: 1, H: 1, Pix: []byte{1, 2, 3, 4}}, {W: 1, H: 1, Pix: make([]byte, 6)},
		{W: 1, H: 1, Pix: make([]byte, 2, 3)}, {W: 2, H: 1, Pix: make([]byte, 3, 30)},
		{W: 2, H: 3, Pix: make([]byte, 6)}, {W: 2, H: 3, Pix: make([]byte, 17)}, {W: 2, H: 3, Pix: make([]byte, 19)}, {W: 2, H: 3, Pix: make([]byte, 15)}, {W: 2, H: 3, Pix: make([]byte, 21)},
		{W: 3, H: 3, Pix: make([]byte, 18)}, {W: 2, H: 2, Pix: make([]byte, 18)},
		{W: -1, H: -1, Pix: make([]byte, 3)}, {W: -2, H: -3, Pix: make([]byte, 18)}, {W: -2, H: 3, Pix: make([]byte, 18)},
		{W: 4097, H: 1, Pix: make([]byte, 3*4097)}, {W: 1, H: 4097, Pix: make([]byte, 3*4097)},
		{W: 4096, H: 1, Pix: make([]byte, 3*4097)}, {W: 1, H: 4096, Pix: make([]byte, 3*4095)}, {W: 4097, H: 1, Pix: make([]byte, 3*4096)},
		{W: 1 << 62, H: 4}, {W: 4, H: 1 << 62}, {W: 1 << 32, H: 1 << 32}, {W: -1 << 63, H: 2}, {W: 1 << 63 / 2, H: 1 << 63 / 2},
		{W: 1<<62 + 1, H: 4, Pix: make([]byte, 12)}, {W: 4, H: 1<<62 + 1, Pix: make([]byte, 12)},
	}
	for _, w := range wrongSides {
		none = append(none, api.Raster{W: w, H: 1, Pix: make([]byte, 3)}, api.Raster{W: 1, H: w, Pix: make([]byte, 3)}, api.Raster{W: w}, api.Raster{H: w})
		for _, h := range wrongSides {
			none = append(none, api.Raster{W: w, H: h}, api.Raster{W: w, H: h, Pix: make([]byte, 3)})
		}
	}
	return none
}
