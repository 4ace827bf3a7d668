package cosine_test

import (
	"math"
	"math/rand/v2"

	"tintype/api"
	"tintype/cosine"
)

const (
	bound = 1 << 15 // of a block's elements
	one   = 1 << 32 // what a sum is divided by
	half  = one / 2
	least = -128 // of the samples
	most  = 127
)

// wrongElements are beyond the bound; the lowest bits of some are not.
var wrongElements = []int{
	bound + 1, -bound - 1, bound + 2, -bound - 2, 1 << 16, -1 << 16, 1<<16 + 1, -1<<16 + 1, 1 << 20, 1 << 31, -1 << 31, 1<<32 + 5, -1<<32 + 5, 1<<48 + 1, 1 << 62, math.MaxInt, math.MinInt, math.MinInt + 1,
}

// transform is one of both transforms, as its weights say it.
type transform struct {
	name    string
	of      func(api.Block) (api.Block, api.Errno)
	weights [64]api.Block // by the index in the result, then by the index in the block
}

// both are the forward and the inverse transform.
func both() []transform {
	forward := transform{name: "Forward", of: cosine.Forward}
	inverse := transform{name: "Inverse", of: cosine.Inverse}
	for v := range 8 {
		for u := range 8 {
			for y := range 8 {
				for x := range 8 {
					w := factor(u, x) * factor(v, y)
					forward.weights[8*v+u][8*y+x] = w
					inverse.weights[8*y+x][8*v+u] = w
				}
			}
		}
	}
	return []transform{forward, inverse}
}

// exact is the number that the factor of u and x stands for.
func exact(u, x int) float64 {
	c := math.Cos(float64((2*x+1)*u)*math.Pi/16) / 2
	if u == 0 {
		c /= math.Sqrt2
	}
	return c
}

// factor is the factor of u and x by its definition.
func factor(u, x int) int {
	return int(math.Round(exact(u, x) * 65536))
}

// exactCoefficients are those of samples, computed with the exact cosines.
func exactCoefficients(b api.Block) [64]float64 {
	var c [64]float64
	for v := range 8 {
		for u := range 8 {
			for at, n := range b {
				c[8*v+u] += float64(n) * exact(u, at%8) * exact(v, at/8)
			}
		}
	}
	return c
}

// sumOf is the sum of b with those weights.
func sumOf(b, weights api.Block) int {
	sum := 0
	for at, n := range b {
		sum += n * weights[at]
	}
	return sum
}

// roundedSum is (sum + 2^31) / 2^32, rounded down.
func roundedSum(sum int) int {
	sum += half
	return (sum - modulo(sum, one)) / one
}

// modulo is what is left of n when it is divided by d and rounded down.
func modulo(n, d int) int {
	return (n%d + d) % d
}

// byDefinition is the transform of b, each sum taken as a whole.
func (t transform) byDefinition(b api.Block) api.Block {
	var result api.Block
	for at := range result {
		result[at] = roundedSum(sumOf(b, t.weights[at]))
	}
	return result
}

// flat is a block of one number.
func flat(n int) api.Block {
	var b api.Block
	for at := range b {
		b[at] = n
	}
	return b
}

// with is b but for the element at one index.
func with(b api.Block, at, n int) api.Block {
	b[at] = n
	return b
}

// transposed is b with rows and columns exchanged.
func transposed(b api.Block) api.Block {
	var result api.Block
	for at, n := range b {
		result[at%8*8+at/8] = n
	}
	return result
}

// mixed is a block of elements from low to high, taken from a source.
func mixed(from *rand.Rand, low, high int) api.Block {
	var b api.Block
	for at := range b {
		b[at] = low + from.IntN(high-low+1)
	}
	return b
}

// bySigns is a block of high where a weight is positive, of low where it is not.
func bySigns(weights [64]float64, low, high int) api.Block {
	b := flat(low)
	for at, w := range weights {
		if w > 0 {
			b[at] = high
		}
	}
	return b
}

// sampleBlocks are blocks of samples of many kinds: flat ones, ones with one other element, stripes and boards, edges, mixed ones, and those that have the greatest and the least coefficients.
func sampleBlocks() []api.Block {
	var all []api.Block
	for _, n := range []int{least, least + 1, -64, -1, 0, 1, 2, 100, most - 1, most} {
		all = append(all, flat(n))
	}
	for at := range 64 {
		for _, n := range []int{least, -1, 1, most} {
			all = append(all, with(api.Block{}, at, n))
		}
		all = append(all, with(flat(least), at, most), with(flat(most), at, least))
	}
	for _, step := range []int{1, 2, 4} {
		var stripes, board, edge api.Block
		for at := range 64 {
			row, col := at/8/step, at%8/step
			stripes[at] = least + col%2*255
			board[at] = least + (row+col)%2*255
			edge[at] = min(max(64*(at/8-step)+20*(at%8), least), most)
		}
		all = append(all, stripes, transposed(stripes), board, edge, transposed(edge))
	}
	all = append(all, extremes()...)
	from := rand.New(rand.NewPCG(7, 128))
	for range 200 {
		all = append(all, mixed(from, least, most), mixed(from, -3, 3))
		ends := mixed(from, 0, 1)
		for at, n := range ends {
			ends[at] = least + 255*n
		}
		all = append(all, ends)
	}
	return all
}

// extremes are the samples for which each coefficient is greatest, and least.
func extremes() []api.Block {
	var all []api.Block
	for v := range 8 {
		for u := range 8 {
			var weights [64]float64
			for at := range weights {
				weights[at] = exact(u, at%8) * exact(v, at/8)
			}
			all = append(all, bySigns(weights, least, most), bySigns(weights, most, least))
		}
	}
	return all
}

// wideBlocks are blocks of elements that are no samples, up to the bound.
func wideBlocks() []api.Block {
	all := []api.Block{flat(bound), flat(-bound), flat(bound - 1), flat(1 - bound), flat(least - 1), flat(most + 1)}
	from := rand.New(rand.NewPCG(7, bound))
	for _, high := range []int{10, 300, 1024, 5000, bound} {
		for range 50 {
			all = append(all, mixed(from, -high, high))
		}
	}
	for range 50 {
		ends := mixed(from, 0, 1)
		for at, n := range ends {
			ends[at] = -bound + 2*bound*n
		}
		all = append(all, ends)
	}
	return all
}

// meeting is a block with a sum of those weights that is the target; false if none is found. Of a block whose sum is near it, three elements are tried anew: one as it comes, and two that make up for what is left, where that can be.
func meeting(target int, weights api.Block, from *rand.Rand) (api.Block, bool) {
	for range 1000 {
		b, places := leaning(target, weights, from), from.Perm(64)
		i, j, k := places[0], places[1], places[2]
		b[i], b[j], b[k] = 0, 0, 0
		missing := target - sumOf(b, weights)
		unit := common(weights[i], weights[j])
		p, q := weights[i]/unit, weights[j]/unit
		inverse := inverseOf(q, p)
		for n := range bound {
			left := missing - n*weights[k]
			if left%unit != 0 {
				continue
			}
			first, second := pair(left/unit, p, q, inverse)
			if max(first, -first, second, -second) <= bound {
				b[i], b[j], b[k] = first, second, n
				return b, sumOf(b, weights) == target
			}
		}
	}
	return api.Block{}, false
}

// pair are two numbers whose products with p and q have the sum n: of all such numbers those with the second one nearest to 0. The inverse is that of q modulo p.
func pair(n, p, q, inverse int) (int, int) {
	second := near(near(n, p)*inverse, p)
	return (n - second*q) / p, second
}

// leaning is a block with a sum of those weights that is near the target.
func leaning(target int, weights api.Block, from *rand.Rand) api.Block {
	all := 0
	for _, w := range weights {
		all += max(w, -w)
	}
	b := mixed(from, -20, 20)
	for at, w := range weights {
		if w > 0 {
			b[at] += target / all
		} else {
			b[at] -= target / all
		}
	}
	return b
}

// divisor is the greatest common divisor of weights.
func divisor(weights api.Block) int {
	unit := 0
	for _, w := range weights {
		unit = common(unit, w)
	}
	return unit
}

// common is the greatest common divisor of two numbers.
func common(a, b int) int {
	for b != 0 {
		a, b = b, a%b
	}
	return max(a, -a)
}

// inverseOf is a number whose product with q is 1 modulo p.
func inverseOf(q, p int) int {
	a, b, x, y := q, p, 1, 0
	for b != 0 {
		n := a / b
		a, b, x, y = b, a-n*b, y, x-n*y
	}
	return a * x // a is 1 or -1
}

// near is the number from about -p/2 to p/2 that is n modulo p.
func near(n, p int) int {
	p = max(p, -p)
	n %= p
	if 2*n > p {
		n -= p
	}
	if 2*n < -p {
		n += p
	}
	return n
}
