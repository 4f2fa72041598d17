package group

import (
	"iter"
	"math/bits"

	"overflight/api"
)

// scalars reports whether all numbers are scalars.
func scalars(l ...int) bool {
	for _, k := range l {
		if k < 0 || k >= api.Q {
			return false
		}
	}
	return true
}

// product returns the product of a and b, which are not negative, modulo m.
func product(a, b, m int) int {
	high, low := bits.Mul64(uint64(a), uint64(b))
	return int(bits.Rem64(high, low, uint64(m)))
}

// power returns a to the power k modulo P.
func power(a, k int) int {
	c := 1
	for set := range digits(k) {
		if set {
			c = product(c, a, api.P)
		}
		a = product(a, a, api.P)
	}
	return c
}

// digits yields whether each bit of k is set, from the least significant bit to the most significant one that is.
func digits(k int) iter.Seq[bool] {
	return func(yield func(bool) bool) {
		for rest := k; rest > 0; rest /= 2 {
			if !yield(rest%2 == 1) {
				return
			}
		}
	}
}

// remainder returns the number of a digest modulo m.
func remainder(d api.Digest, m int) int {
	const base = 1 << 8
	r := 0
	fold := func(x byte) { r = (product(r, base, m) + int(x)) % m }
	for _, x := range d {
		fold(x)
	}
	return r
}
