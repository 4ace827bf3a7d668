package colour_test

import (
	"iter"
	"math"

	"tintype/colour"
)

const (
	one  = 1 << 16 // what a sum is divided by
	half = one / 2
)

// outside are numbers that are clamped; the lowest bits of some are in bounds.
var outside = []int{
	-1, 256, -2, 257, -128, 300, -255, -256, 384, 511, 512, -1000, 1000, 1 << 16, -1 << 16, 1 << 31, -1 << 31, 1<<32 + 5, -1<<32 + 5, 1<<48 + 128, -1<<48 + 128,
	1 << 62, -1 << 62, math.MaxInt / 38470, math.MinInt / 38470, math.MaxInt / 65536, math.MinInt / 65536, math.MaxInt - 128, math.MaxInt - 1, math.MaxInt, math.MinInt + 1, math.MinInt,
}

// conversion is one of both conversions, and the numbers that define it.
type conversion struct {
	name    string
	paint   bool // what All is told for it
	of      func(a, b, c int) (int, int, int)
	weights [3][3]int // by the results, then by the clamped numbers
	less    [3]int    // what is taken from the clamped numbers
	more    [3]int    // what is added to the rounded sums
}

// both are the conversions there and back.
func both() []conversion {
	return []conversion{
		{name: "Luma", of: colour.Luma, weights: [3][3]int{{19595, 38470, 7471}, {-11059, -21709, 32768}, {32768, -27439, -5329}}, more: [3]int{0, 128, 128}},
		{name: "Paint", paint: true, of: colour.Paint, weights: [3][3]int{{65536, 0, 91881}, {65536, -22554, -46802}, {65536, 116130, 0}}, less: [3]int{0, 128, 128}},
	}
}

// at is what the package makes of three numbers.
func (c *conversion) at(n [3]int) [3]int {
	x, y, z := c.of(n[0], n[1], n[2])
	return [3]int{x, y, z}
}

// sum is the weighted sum of three numbers in bounds for one of the results.
func (c *conversion) sum(n [3]int, result int) int {
	sum := 0
	for i, w := range c.weights[result] {
		sum += (n[i] - c.less[i]) * w
	}
	return sum
}

// byDefinition is what the chapter makes of three numbers.
func (c *conversion) byDefinition(n [3]int) [3]int {
	n = clampedAll(n)
	var results [3]int
	for i := range results {
		results[i] = clamped(c.more[i] + roundedSum(c.sum(n, i)))
	}
	return results
}

// ofBytes is what the package makes of bytes, three by three.
func (c *conversion) ofBytes(pix []byte) []byte {
	var converted []byte
	for at := 0; at < len(pix); at += 3 {
		for _, n := range c.at([3]int{int(pix[at]), int(pix[at+1]), int(pix[at+2])}) {
			converted = append(converted, byte(n))
		}
	}
	return converted
}

// roundedSum is (sum + 2^15) / 2^16, rounded down.
func roundedSum(sum int) int {
	sum += half
	return (sum - (sum%one+one)%one) / one
}

// clamped is the number from 0 to 255 that is nearest to n.
func clamped(n int) int {
	if n < 0 {
		return 0
	}
	if n > 255 {
		return 255
	}
	return n
}

// clampedAll are three numbers, each of them clamped.
func clampedAll(n [3]int) [3]int {
	return [3]int{clamped(n[0]), clamped(n[1]), clamped(n[2])}
}

// everyColour yields all threes of numbers from 0 to 255.
func everyColour() iter.Seq[[3]int] {
	return func(yield func([3]int) bool) {
		for n := range 1 << 24 {
			if !yield([3]int{n >> 16, n >> 8 & 255, n & 255}) {
				return
			}
		}
	}
}

// someColours yields threes of numbers from a coarse scale, its ends among them.
func someColours() iter.Seq[[3]int] {
	scale := []int{0, 1, 2, 60, 127, 128, 129, 200, 253, 254, 255}
	return func(yield func([3]int) bool) {
		for _, a := range scale {
			for _, b := range scale {
				for _, c := range scale {
					if !yield([3]int{a, b, c}) {
						return
					}
				}
			}
		}
	}
}

// bytesOf are n bytes in which each value follows others at each of the three places.
func bytesOf(n int) []byte {
	pix := make([]byte, n)
	for i := range pix {
		pix[i] = byte(i * 89 % 251)
	}
	return pix
}
