package vector

import (
	"cmp"
	"iter"
	"slices"
)

// mostSmall is the greatest component of a small vector, and -mostSmall the least one.
const mostSmall = 1 << 60

// alike reports whether vectors have the same number of components.
func alike(vectors ...[]int) bool {
	return !slices.ContainsFunc(vectors, func(v []int) bool { return len(v) != len(vectors[0]) })
}

// small reports whether all components are so small that two of them can be added.
func small(vectors ...[]int) bool {
	isLarge := func(component int) bool { return component < -mostSmall || component > mostSmall }
	return !slices.ContainsFunc(vectors, func(v []int) bool { return slices.ContainsFunc(v, isLarge) })
}

// pairs yields the components of two alike vectors at the same places.
func pairs(a, b []int) iter.Seq2[int, int] {
	return func(yield func(x, y int) bool) {
		for i, x := range a {
			if !yield(x, b[i]) {
				return
			}
		}
	}
}

// pairsOfSums yields the components of the sums a + b and c + d at the same places, without memory for the sums.
func pairsOfSums(a, b, c, d []int) iter.Seq2[int, int] {
	return func(yield func(x, y int) bool) {
		for i, x := range a {
			if !yield(x+b[i], c[i]+d[i]) {
				return
			}
		}
	}
}

// compare is Compare, for the pairs of components of two vectors.
func compare[T cmp.Ordered](pairs iter.Seq2[T, T]) int {
	for x, y := range pairs {
		if x != y {
			return cmp.Compare(x, y)
		}
	}
	return 0
}

// below is Below, for the pairs of components of two vectors.
func below[T cmp.Ordered](pairs iter.Seq2[T, T]) bool {
	for x, y := range pairs {
		if x > y {
			return false
		}
	}
	return true
}

// sum writes the sum of two vectors that are alike and small into the memory of c.
func sum(c, a, b []int) []int {
	c = c[:0]
	for x, y := range pairs(a, b) {
		c = append(c, x+y)
	}
	return c
}
