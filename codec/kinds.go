package codec

import "overflight/api"

// kind says how the values of one kind are treated. Its functions rely on Kind; size and write rely on fits, too.
type kind struct {
	fits  func(v api.Value) bool
	size  func(v api.Value) int
	write func(b []byte, v api.Value) []byte
}

// kinds returns the kinds by their numbers. No value has the kind 0.
func kinds() [api.ListV + 1]kind {
	return [...]kind{
		api.IntV:  {fitsInt, sizeInt, writeInt},
		api.TextV: {fitsText, sizeText, writeText},
		api.ListV: {fitsList, sizeList, writeList},
	}
}

// depth returns the depth of v, and whether v is well-formed. It goes below the greatest depth that is allowed, since a value that is not well-formed is refused as such, however deep it is.
func depth(v api.Value) (n int, ok bool) {
	if v.Kind < api.IntV || v.Kind > api.ListV || !kinds()[v.Kind].fits(v) {
		return 0, false
	}
	if v.Kind != api.ListV {
		return 0, true
	}
	for _, x := range v.L {
		d, ok := depth(x)
		if !ok {
			return 0, false
		}
		n = max(n, d)
	}
	return n + 1, true
}

func size(v api.Value) int { return 1 + kinds()[v.Kind].size(v) }

func write(b []byte, v api.Value) []byte {
	return kinds()[v.Kind].write(append(b, byte(v.Kind)), v)
}

func fitsInt(v api.Value) bool { return v.S == "" && len(v.L) == 0 }

func sizeInt(v api.Value) int { return sizeNumeral(unsigned(v.N)) }

func writeInt(b []byte, v api.Value) []byte { return writeNumeral(b, unsigned(v.N)) }

func fitsText(v api.Value) bool { return v.N == 0 && len(v.L) == 0 }

func sizeText(v api.Value) int { return sizeNumeral(uint64(len(v.S))) + len(v.S) }

func writeText(b []byte, v api.Value) []byte {
	return append(writeNumeral(b, uint64(len(v.S))), v.S...)
}

func fitsList(v api.Value) bool { return v.N == 0 && v.S == "" }

func sizeList(v api.Value) int {
	n := sizeNumeral(uint64(len(v.L)))
	for _, x := range v.L {
		n += size(x)
	}
	return n
}

func writeList(b []byte, v api.Value) []byte {
	b = writeNumeral(b, uint64(len(v.L)))
	for _, x := range v.L {
		b = write(b, x)
	}
	return b
}
