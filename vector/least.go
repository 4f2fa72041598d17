package vector

import (
	"iter"
	"slices"

	"overflight/api"
)

// least returns copies of the least ones of the vectors that it receives in the order of Compare, each once, and whether there are no more than can be kept.
func least(inOrder iter.Seq[[]int]) (x [][]int, ok bool) {
	// A vector comes after all others that are below it, so those that were kept decide. The last one is asked first, because equal vectors follow at once.
	isLeast := func(v []int) bool {
		for _, kept := range slices.Backward(x) {
			if below(pairs(kept, v)) {
				return false
			}
		}
		return true
	}
	for v := range inOrder {
		if !isLeast(v) {
			continue
		}
		if len(x) == api.MaxVectors {
			return nil, false
		}
		x = append(x, slices.Clone(v))
	}
	return x, true
}

// sorted yields the vectors of a list in the order of Compare.
func sorted(l [][]int) iter.Seq[[]int] {
	l = slices.Clone(l)
	slices.SortFunc(l, func(v, w []int) int { return compare(pairs(v, w)) })
	return slices.Values(l)
}

// sortedSums yields the sum of each vector of a and each vector of b in the order of Compare. Only places are sorted, and a sum is only valid until the next one, because all sums together may take too much memory.
func sortedSums(a, b [][]int) iter.Seq[[]int] {
	places := make([][2]int, 0, len(a)*len(b))
	for i := range a {
		for j := range b {
			places = append(places, [2]int{i, j})
		}
	}
	slices.SortFunc(places, func(p, q [2]int) int {
		return compare(pairsOfSums(a[p[0]], b[p[1]], a[q[0]], b[q[1]]))
	})
	return func(yield func(v []int) bool) {
		var v []int
		for _, p := range places {
			v = sum(v, a[p[0]], b[p[1]])
			if !yield(v) {
				return
			}
		}
	}
}
