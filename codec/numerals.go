package codec

import "math/bits"

// A numeral has digits of 7 bits; the bit above them says that another digit follows.
const (
	digitBits = 7
	base      = 1 << digitBits
)

func sizeNumeral(u uint64) int {
	return max(1, (bits.Len64(u)+digitBits-1)/digitBits)
}

func writeNumeral(b []byte, u uint64) []byte {
	for u >= base {
		b = append(b, byte(u%base)+base)
		u /= base
	}
	return append(b, byte(u))
}

// unsigned returns the unsigned form of n. The shift to the right keeps the sign, so it is -1, which inverts all bits, for negative numbers only.
func unsigned(n int) uint64 { return uint64(n<<1) ^ uint64(n>>63) }

// signed returns the number whose unsigned form is u.
func signed(u uint64) int {
	if u%2 == 1 {
		return -int(u/2) - 1
	}
	return int(u / 2)
}
