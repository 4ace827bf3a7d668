package prefix_test

import (
	"cmp"
	"math"
	"slices"
	"testing"

	"tintype/api"
	"tintype/prefix"
)

const (
	most    = 1 << 40 // the greatest symbol count
	nowhere = math.MaxInt
)

// rising are n counts, each the sum of the two before it, as far as they go: no others make longer codes the cheapest.
func rising(n int) []int {
	var counts []int
	for a, b := 1, 1; len(counts) < n; a, b = b, min(a+b, most) {
		counts = append(counts, a)
	}
	return counts
}

// doubled are n counts, each twice the one before it, as far as they go.
func doubled(n int) []int {
	var counts []int
	for i := range n {
		counts = append(counts, 1<<min(i, 40))
	}
	return counts
}

// equal are n counts that are all the same.
func equal(n, count int) []int {
	return slices.Repeat([]int{count}, n)
}

// chance are n counts, of which each bit is chance up to a number of bits that is chance, too.
func chance(roll func(int) int, n, bits int) []int {
	counts := make([]int, n)
	for i := range counts {
		counts[i] = (roll(1<<20)<<20 | roll(1<<20)) % (1 << roll(bits))
	}
	counts[roll(n)]++
	return counts
}

// tallies are symbol counts of all kinds, some of them positive.
func tallies() [][]int {
	all := [][]int{
		{1}, {0, 1}, {1, 0}, {1, 1}, {1, 2}, {2, 1}, {most}, {0, most}, {most, most}, {1, most}, {most, 1}, {0, 0, 0, 5, 0}, {4, 0, 3, 3}, {1, 2, 4, 8}, {8, 4, 2, 1},
		{1, 1, 1, most}, {1, 1, 2, 3, 5, 8, 13, 21}, append(make([]int, 255), 1), append(make([]int, 254), 1, 1), append([]int{3}, append(make([]int, 254), 3)...),
		append(equal(255, 1), most), append(rising(40), equal(216, 1)...), append(equal(200, 1), rising(56)...), append(equal(215, most), doubled(41)...),
	}
	for _, n := range []int{3, 7, 8, 15, 16, 17, 18, 19, 20, 25, 30, 40, 41, 57, 100, 255, 256} {
		backward := rising(n)
		slices.Reverse(backward)
		all = append(all, rising(n), backward, doubled(n), equal(n, 1), equal(n, most))
	}
	roll := dice()
	for range 60 {
		all = append(all, chance(roll, 1+roll(30), 1+roll(40)), chance(roll, 1+roll(maxSyms), 1+roll(40)))
	}
	return all
}

// notTallies are no valid symbol counts.
func notTallies() [][]int {
	return [][]int{
		{-1}, {1, -1}, {-1, 1}, {1, -1, 1}, {most + 1}, {1, most + 1}, {most + 1, 1}, {math.MaxInt}, {math.MinInt}, {1, math.MinInt}, {math.MaxInt, math.MaxInt, 1}, {5, -5}, {-1, 0},
		append(make([]int, 255), -1), append(make([]int, 255), most+1), equal(257, 1), make([]int, 257), append(make([]int, 256), 1), append([]int{1}, make([]int, 256)...), equal(1000, 1),
		append(make([]int, 256), -1), append(make([]int, 299), most+1),
	}
}

// emptyTallies are valid, but none of them is positive.
func emptyTallies() [][]int {
	return [][]int{nil, {}, {0}, {0, 0}, make([]int, 255), make([]int, 256)}
}

// inOrder are the symbols whose count is positive, as Build must give them.
func inOrder(counts []int) []int {
	var syms []int
	for sym, n := range counts {
		if n > 0 {
			syms = append(syms, sym)
		}
	}
	slices.SortFunc(syms, func(a, b int) int { return cmp.Or(cmp.Compare(counts[b], counts[a]), cmp.Compare(a, b)) })
	return syms
}

// costOf is the cost of a valid h, as the chapter says it, by the lengths of texts; -1 if a symbol has no code.
func costOf(h api.Huff, counts []int) int {
	codes := texts(h)
	cost := 0
	for sym, n := range counts {
		at := slices.Index(h.Syms, sym)
		if n > 0 && at < 0 {
			return -1
		}
		if at >= 0 {
			cost += n * len(codes[at])
		}
	}
	return cost
}

// least is the lowest cost of valid codes for counts. From the root of a tree down it tries how many of the symbols end on each level, the most frequent first, and keeps one node free at the end: neither heaps nor packages.
func least(counts []int) int {
	syms := inOrder(counts)
	n := len(syms)
	behind := make([]int, n+1) // the sum of the counts from a symbol on
	for i := n - 1; i >= 0; i-- {
		behind[i] = behind[i+1] + counts[syms[i]]
	}
	// below[i][open] is the lowest cost of the levels from here on, if i symbols ended above and a level has so many nodes (more than n+1 are never needed).
	below := make([][]int, n+1)
	for i := range below {
		below[i] = slices.Repeat([]int{nowhere}, n+2)
	}
	for open := 1; open <= n+1; open++ {
		below[n][open] = 0
	}
	for range maxLen {
		here := make([][]int, n+1)
		here[n] = below[n]
		for i := range n {
			here[i] = slices.Repeat([]int{nowhere}, n+2)
			for open := 1; open <= n+1; open++ {
				best := nowhere
				for ends := range min(open, n-i+1) {
					best = min(best, below[i+ends][min(2*(open-ends), n+1)])
				}
				if best < nowhere {
					here[i][open] = best + behind[i]
				}
			}
		}
		below = here
	}
	return below[0][min(2, n+1)]
}

// P4.4: Cost

func TestCost(t *testing.T) {
	all := append(tallies(), emptyTallies()...)
	for _, h := range valids() {
		for _, counts := range all {
			if got, want := prefix.Cost(h, counts), costOf(h, counts); got != want {
				t.Fatalf("Cost(%v, %v) = %d, not %d", h, counts, got, want)
			}
		}
		for _, counts := range notTallies() {
			if got := prefix.Cost(h, counts); got != -1 {
				t.Fatalf("Cost(%v, %v) = %d", h, counts, got)
			}
		}
	}
	for what, h := range wrongs() {
		for _, counts := range append([][]int{{1}, {0, 1}, {1, -1}, equal(257, 1)}, emptyTallies()...) {
			if got := prefix.Cost(h, counts); got != -1 {
				t.Fatalf("%s: %d", what, got)
			}
		}
	}
}

func TestCostExamples(t *testing.T) {
	h := api.Huff{Count: [16]int{0, 1, 2}, Syms: []int{5, 1, 9}}
	for _, c := range []struct {
		h      api.Huff
		counts []int
		want   int
	}{
		{h, []int{0, 7, 0, 0, 0, 100, 0, 0, 0, 1}, 21 + 200 + 3}, {h, nil, 0}, {h, []int{0, 1}, 3}, {h, []int{0, 0, 0, 0, 0, most}, 2 * most}, {h, make([]int, 256), 0},
		{h, []int{1}, -1}, {h, []int{0, 1, 1}, -1}, {h, append(make([]int, 255), 1), -1}, {h, append(make([]int, 256), 1), -1}, {h, []int{0, -1}, -1}, {h, []int{0, most + 1}, -1},
		{oneEach(2), []int{1, 1}, 3}, {oneEach(2), []int{5}, 5}, {oneEach(2), []int{0, 5}, 10}, {named(oneEach(2), 1, 0), []int{0, 5}, 5},
		{allOf(256, 16), equal(256, most), 16 * 256 * most}, {allOf(256, 16), equal(257, 0), -1}, {api.Huff{}, nil, -1}, {allOf(2, 1), []int{1, 1}, -1},
	} {
		if got := prefix.Cost(c.h, c.counts); got != c.want {
			t.Errorf("Cost(%v, %v) = %d, not %d", c.h, c.counts, got, c.want)
		}
	}
}

// P4.4 and P4.7: Build

// TestBuild checks what is built against the lowest cost, found on another way.
func TestBuild(t *testing.T) {
	for _, counts := range tallies() {
		h := built(t, counts)
		if !isValid(h) || !slices.Equal(h.Syms, inOrder(counts)) {
			t.Fatalf("Build(%v) = %v", counts, h)
		}
		if got, want := costOf(h, counts), least(counts); got != want {
			t.Fatalf("Build(%v) costs %d, not %d: %v", counts, got, want, h.Count)
		}
		if again := built(t, counts); !same(h, again) {
			t.Fatalf("%v: first %v, then %v", counts, h, again)
		}
	}
}

// TestBuildSmall checks all counts of up to 5 symbols that are 0 to 5, or much greater.
func TestBuildSmall(t *testing.T) {
	from := []int{0, 1, 2, 3, 5, 1000}
	var try func(counts []int)
	try = func(counts []int) {
		if slices.ContainsFunc(counts, func(n int) bool { return n > 0 }) {
			h := built(t, counts)
			if !isValid(h) || !slices.Equal(h.Syms, inOrder(counts)) || costOf(h, counts) != least(counts) {
				t.Fatalf("Build(%v) = %v", counts, h)
			}
		}
		for _, n := range from {
			if len(counts) < 5 {
				try(append(slices.Clone(counts), n))
			}
		}
	}
	try(nil)
}

// TestBuildAlone: one symbol alone has one code of 1 bit, whatever it is.
func TestBuildAlone(t *testing.T) {
	for sym := range maxSyms {
		for _, n := range []int{1, 5, most} {
			for _, spare := range []int{0, 255 - sym} {
				counts := append(make([]int, sym), append([]int{n}, make([]int, spare)...)...)
				if h := built(t, counts); h.Count != [16]int{1} || !slices.Equal(h.Syms, []int{sym}) || prefix.Cost(h, counts) != n {
					t.Fatalf("%d times %d: %v", n, sym, h)
				}
			}
		}
	}
}

// TestBuildEqual: counts that are the same cost the least if all codes are as long, but for one bit.
func TestBuildEqual(t *testing.T) {
	for n := 1; n <= maxSyms; n++ {
		for _, count := range []int{1, 3, most} {
			long := 1
			for 1<<long <= n {
				long++
			}
			// All nodes of that level that are free, but one, let a code end a level above.
			short := 1<<long - n - 1
			h := built(t, equal(n, count))
			if want := count * (n*long - short); !isValid(h) || !slices.Equal(h.Syms, upTo(n)) || prefix.Cost(h, equal(n, count)) != want {
				t.Fatalf("%d times %d: %v, not at %d", n, count, h, want)
			}
		}
	}
}

func TestBuildExamples(t *testing.T) {
	for _, c := range []struct {
		counts []int
		count  [16]int
		syms   []int
	}{
		{[]int{1, 1}, [16]int{1, 1}, []int{0, 1}},
		{[]int{0, 0, 0, 0, 0, 0, 0, 5}, [16]int{1}, []int{7}},
		{[]int{1, 2}, [16]int{1, 1}, []int{1, 0}},
		{[]int{4, 0, 3, 3}, [16]int{1, 1, 1}, []int{0, 2, 3}},
		{[]int{9, 9, 9, 9}, [16]int{0, 3, 1}, []int{0, 1, 2, 3}},
		{[]int{1, 2, 4, 8}, [16]int{1, 1, 1, 1}, []int{3, 2, 1, 0}},
		{doubled(15), [16]int{1, 1, 1, 1, 1, 1, 1, 1, 1, 1, 1, 1, 1, 1, 1}, []int{14, 13, 12, 11, 10, 9, 8, 7, 6, 5, 4, 3, 2, 1, 0}},
		{doubled(16), [16]int{1, 1, 1, 1, 1, 1, 1, 1, 1, 1, 1, 1, 1, 1, 1, 1}, []int{15, 14, 13, 12, 11, 10, 9, 8, 7, 6, 5, 4, 3, 2, 1, 0}},
		// The cheapest code of symbol 0 would have 17 bits: the three rarest symbols share what room there is.
		{doubled(17), [16]int{1, 1, 1, 1, 1, 1, 1, 1, 1, 1, 1, 1, 1, 1, 0, 3}, []int{16, 15, 14, 13, 12, 11, 10, 9, 8, 7, 6, 5, 4, 3, 2, 1, 0}},
	} {
		if h := built(t, c.counts); !same(h, api.Huff{Count: c.count, Syms: c.syms}) || costOf(h, c.counts) != least(c.counts) {
			t.Errorf("Build(%v) = %v", c.counts, h)
		}
	}
}

// TestBuildZeros: symbols that do not occur get no code, and change nothing.
func TestBuildZeros(t *testing.T) {
	for _, counts := range tallies() {
		h := built(t, counts)
		if longer := append(slices.Clone(counts), make([]int, maxSyms-len(counts))...); !same(h, built(t, longer)) {
			t.Fatalf("%v and %v", counts, longer)
		}
		if len(counts) == maxSyms {
			continue
		}
		shifted := built(t, append([]int{0}, counts...))
		for i := range shifted.Syms {
			shifted.Syms[i]--
		}
		if !same(h, shifted) {
			t.Fatalf("%v: %v, but %v", counts, h, shifted)
		}
	}
}

func TestBuildWrong(t *testing.T) {
	for _, counts := range append(notTallies(), emptyTallies()...) {
		if h, err := prefix.Build(counts); err != api.ErrArg || h.Count != [16]int{} || h.Syms != nil {
			t.Errorf("Build(%v) = %v, %v", counts, h, err)
		}
	}
}

// P4.5: Build

func TestBuildArgumentsStay(t *testing.T) {
	for _, counts := range append(tallies(), notTallies()...) {
		part, whole := spared(counts)
		before := slices.Clone(whole)
		h, _ := prefix.Build(part)
		prefix.Cost(h, part)
		if !slices.Equal(whole, before) {
			t.Fatalf("%v has become %v", before, whole)
		}
	}
}

func TestBuildResultsAreNew(t *testing.T) {
	for _, counts := range tallies() {
		given := slices.Clone(counts)
		h, again := built(t, given), built(t, given)
		flip(given)
		flip(again.Syms)
		if !slices.Equal(h.Syms, inOrder(counts)) || !same(h, built(t, counts)) {
			t.Fatalf("%v: %v", counts, h)
		}
	}
}

// P4.7

// TestNoneCostsLess asks Cost of all specifications of up to 4 symbols with codes of up to 6 bits, in all orders.
func TestNoneCostsLess(t *testing.T) {
	roll := dice()
	for n := 1; n <= 4; n++ {
		all := specs(n, 6)
		for range 60 {
			counts := make([]int, n)
			for i := range counts {
				counts[i] = 1 + roll(1+roll(1+roll(500)))
			}
			best := prefix.Cost(built(t, counts), counts)
			found := false
			for _, h := range all {
				cost := prefix.Cost(h, counts)
				if cost < best {
					t.Fatalf("%v: %v costs %d, what is built %d", counts, h, cost, best)
				}
				found = found || cost == best
			}
			if !found {
				t.Fatalf("%v: none costs %d", counts, best)
			}
		}
	}
}

// specs are all valid specifications of the symbols from 0 to below n, with codes of up to long bits.
func specs(n, long int) []api.Huff {
	var all []api.Huff
	var try func(count [16]int, length, left int)
	try = func(count [16]int, length, left int) {
		if length > long {
			for _, syms := range orders(upTo(n)) {
				if h := (api.Huff{Count: count, Syms: syms}); isValid(h) {
					all = append(all, h)
				}
			}
			return
		}
		for k := range left + 1 {
			count[length-1] = k
			try(count, length+1, left-k)
		}
	}
	try([16]int{}, 1, n)
	return all
}

// orders are all orders of syms.
func orders(syms []int) [][]int {
	if len(syms) == 0 {
		return [][]int{{}}
	}
	var all [][]int
	for i := range syms {
		for _, rest := range orders(slices.Delete(slices.Clone(syms), i, i+1)) {
			all = append(all, append([]int{syms[i]}, rest...))
		}
	}
	return all
}

// TestOthersCostNoLess holds what is built for some counts against what is built for others of the same symbols.
func TestOthersCostNoLess(t *testing.T) {
	for _, n := range []int{2, 17, 41, 100, 256} {
		var all [][]int
		for _, counts := range tallies() {
			if len(counts) == n && !slices.Contains(counts, 0) {
				all = append(all, counts)
			}
		}
		for _, counts := range all {
			best := prefix.Cost(built(t, counts), counts)
			for _, other := range all {
				if cost := prefix.Cost(built(t, other), counts); cost < best {
					t.Fatalf("%v: what is built costs %d, but for %v %d", counts, best, other, cost)
				}
			}
		}
	}
}
