package codec

import "overflight/api"

// reader reads values from the bytes that remain. Whatever is no encoding ends the reading by a panic with ErrCode.
type reader struct{ rest []byte }

// value reads a value whose depth is at most deepest.
func (r *reader) value(deepest int) api.Value {
	switch r.take(1)[0] {
	case api.IntV:
		return api.Value{Kind: api.IntV, N: signed(r.numeral())}
	case api.TextV:
		return api.Value{Kind: api.TextV, S: string(r.take(r.numeral()))}
	case api.ListV:
		return r.list(deepest)
	}
	panic(api.ErrCode)
}

// list reads what follows the kind of a list. The elements get no memory in advance, since their number may be false.
func (r *reader) list(deepest int) api.Value {
	if deepest == 0 {
		panic(api.ErrCode)
	}
	v := api.Value{Kind: api.ListV}
	for range r.numeral() {
		v.L = append(v.L, r.value(deepest-1))
	}
	return v
}

// numeral reads a numeral. It refuses digits beyond 64 bits, and a superfluous zero digit at the end.
func (r *reader) numeral() (u uint64) {
	for shift := 0; ; shift += digitBits {
		c := r.take(1)[0]
		digit := uint64(c % base)
		if digit<<shift>>shift != digit || c == 0 && shift > 0 {
			panic(api.ErrCode)
		}
		u |= digit << shift
		if c < base {
			return u
		}
	}
}

// take reads n bytes. They, and what remains, are cut off from the bytes behind them.
func (r *reader) take(n uint64) []byte {
	many := uint64(len(r.rest))
	if n > many {
		panic(api.ErrCode)
	}
	head := r.rest[:n:n]
	r.rest = r.rest[n:many:many]
	return head
}

// end makes sure that nothing remains.
func (r *reader) end() {
	if len(r.rest) > 0 {
		panic(api.ErrCode)
	}
}
