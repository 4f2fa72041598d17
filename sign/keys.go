package sign

import (
	"slices"

	"overflight/api"
	"overflight/group"
)

// key is a number that may be a private key.
type key int

func (k key) positive() bool { return k >= 1 }

func (k key) small() bool { return k < api.Q }

func (k key) valid() bool {
	for _, holds := range []func() bool{k.positive, k.small} {
		if !holds() {
			return false
		}
	}
	return true
}

// challenge returns the challenge for a public key, an element R and a message.
func challenge(public, r int, message []byte) int {
	return scalar("sign", number(r), number(public), message)
}

// nonce returns the nonce for a private key and a message.
func nonce(private int, message []byte) int {
	return scalar("nonce", number(private), message)
}

// scalar returns the scalar that parts determine, one after the other.
func scalar(tag string, parts ...[]byte) int {
	return group.Scalar(tag, slices.Concat(parts...))
}

// number returns the bytes of a number.
func number(n int) []byte {
	const size = 8
	b := make([]byte, size)
	for i := range b {
		b[i] = byte(n >> (8 * (size - 1 - i)))
	}
	return b
}
