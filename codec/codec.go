// Package codec encodes values canonically. See shared/doc/01-codec.md.
package codec

import (
	"slices"

	"overflight/api"
)

// Check validates a value.
func Check(v api.Value) (e api.Errno) {
	n, ok := depth(v)
	if !ok {
		return api.ErrArg
	}
	if n > api.MaxDepth {
		return api.ErrLimit
	}
	return api.OK
}

// Encode returns the encoding of a value.
func Encode(v api.Value) (b []byte, e api.Errno) {
	if e = Check(v); e != api.OK {
		return nil, e
	}
	return write(make([]byte, 0, size(v)), v), api.OK
}

// Decode returns the value of an encoding.
func Decode(b []byte) (v api.Value, e api.Errno) {
	defer func() {
		if recover() != nil {
			v, e = api.Value{}, api.ErrCode
		}
	}()
	r := reader{rest: b}
	v = r.value(api.MaxDepth)
	r.end()
	return v, api.OK
}

// Size returns the length of the encoding of a value.
func Size(v api.Value) (n int, e api.Errno) {
	if e = Check(v); e != api.OK {
		return 0, e
	}
	return size(v), api.OK
}

// Same reports whether two values are equal.
func Same(a, b api.Value) (same bool) {
	return a.Kind == b.Kind && a.N == b.N && a.S == b.S && slices.EqualFunc(a.L, b.L, Same)
}
