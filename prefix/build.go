package prefix

import (
	"cmp"
	"container/heap"
	"slices"
	"sort"

	"tintype/api"
)

const (
	maxCount = 1 << 40 // the greatest symbol count
	noCost   = -1      // what is told where there is no cost
)

// Cost returns the cost of h for counts.
func Cost(h api.Huff, counts []int) int {
	t, err := New(h)
	all, ok := tally(counts)
	if err != api.OK || !ok {
		return noCost
	}
	cost := 0
	for sym, n := range all {
		code, ok := t.Code(sym)
		if n > 0 && !ok {
			return noCost
		}
		cost += n * code.N
	}
	return cost
}

// Build returns an optimal specification for counts, its symbols by decreasing count.
func Build(counts []int) (api.Huff, api.Errno) {
	all, ok := tally(counts)
	syms := counted(all)
	if !ok || len(syms) == 0 {
		return api.Huff{}, api.ErrArg
	}
	h := api.Huff{Syms: syms}
	for _, n := range lengths(all, syms) {
		h.Count[n-1]++
	}
	return h, api.OK
}

// tally returns the count of each symbol there is, if counts are valid.
func tally(counts []int) ([maxSyms]int, bool) {
	var all [maxSyms]int
	if len(counts) > maxSyms {
		return all, false
	}
	for _, n := range counts {
		if n < 0 || n > maxCount {
			return all, false
		}
	}
	copy(all[:], counts)
	return all, true
}

// counted returns the symbols whose count is positive, by decreasing count, those of equal counts by increasing symbol.
func counted(all [maxSyms]int) []int {
	var syms []int
	for sym, n := range all {
		if n > 0 {
			syms = append(syms, sym)
		}
	}
	slices.SortStableFunc(syms, func(a, b int) int { return cmp.Compare(all[b], all[a]) })
	return syms
}

// lengths returns the lengths of codes for syms that cost the least.
func lengths(all [maxSyms]int, syms []int) []int {
	var leaves []group
	for i, sym := range syms {
		leaves = append(leaves, group{weight: all[sym], leaves: []int{i}})
	}
	// A leaf of no weight, which no symbol gets, keeps a code free, and with it the one of 1 bits only.
	leaves = append(leaves, group{leaves: []int{len(syms)}})
	depths := merged(leaves)
	if slices.Max(depths) > maxLen {
		depths = limited(leaves)
	}
	return depths[:len(syms)]
}

// group is leaves, each as often as it is in the group, and the sum of their weights.
type group struct {
	weight int
	leaves []int
}

// join returns the group of all that two groups have.
func join(a, b group) group {
	return group{weight: a.weight + b.weight, leaves: slices.Concat(a.leaves, b.leaves)}
}

// forest is a heap of trees, each the group of its leaves; one of least weight is on top.
type forest []group

func (f forest) Len() int           { return len(f) }
func (f forest) Less(i, j int) bool { return f[i].weight < f[j].weight }
func (f forest) Swap(i, j int)      { f[i], f[j] = f[j], f[i] }

func (f *forest) Push(x any) { *f = append(*f, x.(group)) }

func (f *forest) Pop() any {
	last := f.Len() - 1
	x := (*f)[last]
	*f = (*f)[:last]
	return x
}

// merged returns the depths of the leaves in a tree of least cost, however deep (Huffman's algorithm).
func merged(leaves []group) []int {
	trees := forest(slices.Clone(leaves))
	heap.Init(&trees)
	depths := make([]int, len(leaves))
	for trees.Len() > 1 {
		a, b := heap.Pop(&trees).(group), heap.Pop(&trees).(group)
		both := join(a, b)
		for _, leaf := range both.leaves {
			depths[leaf]++
		}
		heap.Push(&trees, both)
	}
	return depths
}

// limited returns the depths of the leaves in a tree of least cost that is as deep as a code may be long (package-merge, of Larmore and Hirschberg).
func limited(leaves []group) []int {
	var packages []group
	for range maxLen {
		// Any order of equal weights leads to the lowest cost; a stable one leaves no choice to the library.
		packages = slices.Concat(leaves, paired(packages))
		sort.SliceStable(packages, func(i, j int) bool { return packages[i].weight < packages[j].weight })
	}
	depths := make([]int, len(leaves))
	// A tree has as many nodes below its root as twice its leaves but one.
	for _, p := range packages[:2*(len(leaves)-1)] {
		for _, leaf := range p.leaves {
			depths[leaf]++
		}
	}
	return depths
}

// paired returns neighbours joined two by two; a last one without a neighbour is left out.
func paired(packages []group) []group {
	var pairs []group
	for i := 1; i < len(packages); i += 2 {
		pairs = append(pairs, join(packages[i-1], packages[i]))
	}
	return pairs
}
