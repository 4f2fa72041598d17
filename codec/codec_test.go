package codec

import (
	"bytes"
	"math"
	"slices"
	"strings"
	"testing"

	"overflight/api"
)

func num(n int) api.Value { return api.Value{Kind: api.IntV, N: n} }

func text(s string) api.Value { return api.Value{Kind: api.TextV, S: s} }

func list(l ...api.Value) api.Value { return api.Value{Kind: api.ListV, L: l} }

// within returns v within n lists.
func within(n int, v api.Value) api.Value {
	for range n {
		v = list(v)
	}
	return v
}

// join returns the parts one after the other.
func join(parts ...[]byte) []byte { return bytes.Join(parts, nil) }

func repeat(n int, b ...byte) []byte { return bytes.Repeat(b, n) }

type example struct {
	name string
	v    api.Value
	b    []byte
}

// examples returns values with their encodings, which are written out by hand: those of the chapter, and the bounds of numerals, lengths and depths.
func examples() []example {
	zeros := make([]api.Value, 128)
	for i := range zeros {
		zeros[i] = num(0)
	}
	return []example{
		{"0", num(0), []byte{1, 0}},
		{"1", num(1), []byte{1, 2}},
		{"-1", num(-1), []byte{1, 1}},
		{"-3", num(-3), []byte{1, 5}},
		{"63", num(63), []byte{1, 126}},
		{"-64", num(-64), []byte{1, 127}},
		{"64", num(64), []byte{1, 128, 1}},
		{"-65", num(-65), []byte{1, 129, 1}},
		{"100", num(100), []byte{1, 200, 1}},
		{"8191", num(8191), []byte{1, 254, 127}},
		{"-8192", num(-8192), []byte{1, 255, 127}},
		{"8192", num(8192), []byte{1, 128, 128, 1}},
		{"2^62 - 1", num(1<<62 - 1), join([]byte{1, 254}, repeat(7, 255), []byte{127})},
		{"2^62", num(1 << 62), join([]byte{1}, repeat(9, 128), []byte{1})},
		{"the greatest int", num(math.MaxInt), join([]byte{1, 254}, repeat(8, 255), []byte{1})},
		{"the least int", num(math.MinInt), join([]byte{1}, repeat(9, 255), []byte{1})},
		{"no text", text(""), []byte{2, 0}},
		{"ab", text("ab"), []byte{2, 2, 'a', 'b'}},
		{"bytes that are no characters", text("\x00\xff\x80"), []byte{2, 3, 0, 255, 128}},
		{"a text of 127", text(strings.Repeat("x", 127)), join([]byte{2, 127}, repeat(127, 'x'))},
		{"a text of 128", text(strings.Repeat("x", 128)), join([]byte{2, 128, 1}, repeat(128, 'x'))},
		{"a text of 16384", text(strings.Repeat("x", 16384)), join([]byte{2, 128, 128, 1}, repeat(16384, 'x'))},
		{"the empty list", list(), []byte{3, 0}},
		{"a list of two", list(num(100), text("ab")), []byte{3, 2, 1, 200, 1, 2, 2, 'a', 'b'}},
		{"lists of lists", list(list(), list(num(0)), text("")), []byte{3, 3, 3, 0, 3, 1, 1, 0, 2, 0}},
		{"a list of 127", list(zeros[:127]...), join([]byte{3, 127}, repeat(127, 1, 0))},
		{"a list of 128", list(zeros...), join([]byte{3, 128, 1}, repeat(128, 1, 0))},
		{"16 lists", within(15, list()), join(repeat(15, 3, 1), []byte{3, 0})},
		{"an integer in 16 lists", within(16, num(-1)), join(repeat(16, 3, 1), []byte{1, 1})},
		{"16 lists beside a text", list(text("a"), within(14, list())), join([]byte{3, 2, 2, 1, 'a'}, repeat(14, 3, 1), []byte{3, 0})},
	}
}

func TestEncode(t *testing.T) {
	for _, x := range examples() {
		if e := Check(x.v); e != api.OK {
			t.Errorf("%s: Check: %d", x.name, e)
		}
		if b, e := Encode(x.v); e != api.OK || !bytes.Equal(b, x.b) {
			t.Errorf("%s: Encode: %d %d", x.name, b, e)
		}
		if n, e := Size(x.v); e != api.OK || n != len(x.b) {
			t.Errorf("%s: Size: %d %d", x.name, n, e)
		}
	}
}

func TestUnusedEmptySlices(t *testing.T) {
	empty := []api.Value{}
	for _, x := range []example{
		{"an integer", api.Value{Kind: api.IntV, N: 7, L: empty}, []byte{1, 14}},
		{"a text", api.Value{Kind: api.TextV, S: "a", L: empty}, []byte{2, 1, 'a'}},
		{"a list", api.Value{Kind: api.ListV, L: empty}, []byte{3, 0}},
	} {
		b, e := Encode(x.v)
		n, f := Size(x.v)
		if e != api.OK || f != api.OK || n != len(x.b) || !bytes.Equal(b, x.b) || Check(x.v) != api.OK {
			t.Errorf("%s: %d %d %d %d", x.name, b, e, n, f)
		}
	}
}

func TestInvalidValues(t *testing.T) {
	wrong := api.Value{Kind: 4}
	for i, x := range []struct {
		v    api.Value
		want api.Errno
	}{
		{api.Value{}, api.ErrArg},
		{api.Value{Kind: -1}, api.ErrArg},
		{wrong, api.ErrArg},
		{api.Value{Kind: math.MaxInt}, api.ErrArg},
		{api.Value{Kind: math.MinInt}, api.ErrArg},
		{api.Value{Kind: 1<<32 + 1}, api.ErrArg},
		{api.Value{N: 1, S: "a", L: []api.Value{num(1)}}, api.ErrArg},
		{api.Value{Kind: api.IntV, S: "a"}, api.ErrArg},
		{api.Value{Kind: api.IntV, L: []api.Value{num(1)}}, api.ErrArg},
		{api.Value{Kind: api.TextV, N: 1}, api.ErrArg},
		{api.Value{Kind: api.TextV, S: "a", L: []api.Value{num(1)}}, api.ErrArg},
		{api.Value{Kind: api.ListV, N: -1}, api.ErrArg},
		{api.Value{Kind: api.ListV, S: "\x00"}, api.ErrArg},
		{list(wrong, num(1)), api.ErrArg},
		{list(num(1), wrong), api.ErrArg},
		{list(list(num(1)), list(num(1), wrong), num(1)), api.ErrArg},
		{within(16, wrong), api.ErrArg},
		{within(17, wrong), api.ErrArg},
		{list(within(16, num(1)), wrong), api.ErrArg},
		{list(wrong, within(16, num(1))), api.ErrArg},
		{within(1<<16, wrong), api.ErrArg},
		{within(16, list()), api.ErrLimit},
		{within(17, text("a")), api.ErrLimit},
		{list(num(1), within(16, num(1)), num(1)), api.ErrLimit},
		{within(1<<16, num(1)), api.ErrLimit},
	} {
		if e := Check(x.v); e != x.want {
			t.Errorf("%d: Check: %d", i, e)
		}
		if b, e := Encode(x.v); e != x.want || len(b) > 0 {
			t.Errorf("%d: Encode: %d %d", i, b, e)
		}
		if n, e := Size(x.v); e != x.want || n != 0 {
			t.Errorf("%d: Size: %d %d", i, n, e)
		}
	}
}

func TestDecode(t *testing.T) {
	for _, x := range examples() {
		if v, e := Decode(x.b); e != api.OK || !Same(v, x.v) {
			t.Errorf("%s: %d", x.name, e)
		}
	}
}

func isNoEncoding(t *testing.T, name string, b []byte) {
	t.Helper()
	v, e := Decode(b)
	if e != api.ErrCode || v.Kind != 0 || v.N != 0 || v.S != "" || len(v.L) > 0 {
		t.Fatalf("%s: %d: error %d, kind %d", name, b[:min(len(b), 20)], e, v.Kind)
	}
}

func TestDecodeRefuses(t *testing.T) {
	nines := repeat(9, 255)
	for name, b := range map[string][]byte{
		"no bytes":                              nil,
		"an empty slice":                        {},
		"the kind 0":                            {0, 0},
		"the kind 4":                            {4, 0},
		"a kind beyond the signs":               {129, 0},
		"an integer without numeral":            {1},
		"a numeral that goes on":                {1, 128},
		"a superfluous digit":                   {1, 128, 0},
		"a superfluous digit behind two others": {1, 129, 128, 0},
		"superfluous digits beyond 64 bits":     join([]byte{1}, repeat(20, 128), []byte{0}),
		"a digit beyond 64 bits":                join([]byte{1}, repeat(20, 128), []byte{1}),
		"2^64 + 2^63 - 1":                       join([]byte{1}, nines, []byte{2}),
		"a tenth digit that is too great":       join([]byte{1}, nines, []byte{127}),
		"an eleventh digit":                     join([]byte{1}, nines, []byte{129, 1}),
		"an eleventh digit 0":                   join([]byte{1}, nines, []byte{129, 0}),
		"a byte too many":                       {1, 5, 0},
		"two encodings":                         {1, 5, 1, 5},
		"a text without numeral":                {2},
		"a text without its byte":               {2, 1},
		"a text that is too short":              {2, 3, 97},
		"a text that is too long":               {2, 1, 97, 98},
		"a superfluous digit of a length":       {2, 128, 0},
		"a text of 2^63 bytes":                  join([]byte{2}, repeat(9, 128), []byte{1}),
		"a text of 2^64 - 1 bytes":              join([]byte{2}, nines, []byte{1}),
		"a list without numeral":                {3},
		"a list without its element":            {3, 1},
		"a list that is too short":              {3, 2, 1, 0},
		"a list that is too long":               {3, 1, 1, 0, 1, 0},
		"a list with a part of an element":      {3, 1, 1},
		"a superfluous digit of a number":       {3, 129, 0, 1, 0},
		"an element that is no encoding":        {3, 2, 1, 0, 0, 0},
		"an element with a superfluous digit":   {3, 1, 1, 128, 0},
		"a list of 2^63 elements":               join([]byte{3}, repeat(9, 128), []byte{1, 1, 0}),
		"a list of 2^64 - 1 elements":           join([]byte{3}, nines, []byte{1, 1, 0}),
		"17 lists":                              join(repeat(16, 3, 1), []byte{3, 0}),
		"an integer in 17 lists":                join(repeat(17, 3, 1), []byte{1, 0}),
		"17 lists behind an integer":            join([]byte{3, 2, 1, 0}, repeat(15, 3, 1), []byte{3, 0}),
		"very many lists":                       join(repeat(1<<20, 3, 1), []byte{3, 0}),
	} {
		isNoEncoding(t, name, b)
	}
}

// TestDecodeShort compares Decode with all encodings of at most 4 bytes, which are listed by their definition, on all bytes of at most 3, and on bytes of 4 that are at bounds.
func TestDecodeShort(t *testing.T) {
	is := map[string]bool{}
	for _, b := range short(4) {
		is[string(b)] = true
	}
	all := make([]byte, 256)
	for i := range all {
		all[i] = byte(i)
	}
	tried := [][]byte{nil}
	tried = append(tried, words([][]byte{all})...)
	tried = append(tried, words([][]byte{all, all})...)
	tried = append(tried, words([][]byte{{0, 1, 2, 3, 4, 255}, all, all})...)
	some := []byte{0, 1, 2, 3, 4, 5, 126, 127, 128, 129, 130, 254, 255}
	tried = append(tried, words([][]byte{some, some, some, some})...)
	for _, b := range tried {
		if !is[string(b)] {
			isNoEncoding(t, "no encoding", b)
			continue
		}
		v, e := Decode(b)
		if c, f := Encode(v); e != api.OK || f != api.OK || !bytes.Equal(b, c) {
			t.Fatalf("%d: %v %d, %d %d", b, v, e, c, f)
		}
	}
}

// words returns all words whose bytes are in the given sets.
func words(sets [][]byte) (l [][]byte) {
	if len(sets) == 0 {
		return [][]byte{nil}
	}
	for _, w := range words(sets[1:]) {
		for _, c := range sets[0] {
			l = append(l, join([]byte{c}, w))
		}
	}
	return l
}

// short returns all encodings of at most most bytes, as long as most is at most 4: numerals of more than 2 digits occur in integers only, and lists have at most one element.
func short(most int) (l [][]byte) {
	for u := 0; u < 1<<21; u++ {
		digits := []byte{byte(u)}
		if u >= 1<<14 {
			digits = []byte{byte(u) | 128, byte(u>>7) | 128, byte(u >> 14)}
		} else if u >= 1<<7 {
			digits = []byte{byte(u) | 128, byte(u >> 7)}
		}
		if 1+len(digits) <= most {
			l = append(l, join([]byte{1}, digits))
		}
	}
	for n := 0; 2+n <= most; n++ {
		for u := range 1 << (8 * n) {
			l = append(l, []byte{2, byte(n), byte(u), byte(u >> 8)}[:2+n])
		}
	}
	if most >= 2 {
		l = append(l, []byte{3, 0})
		for _, b := range short(most - 2) {
			l = append(l, join([]byte{3, 1}, b))
		}
	}
	return l
}

// variety returns different values, well-formed ones and others.
func variety() (l []api.Value) {
	for _, x := range examples() {
		l = append(l, x.v)
	}
	return append(l,
		api.Value{},
		api.Value{Kind: 4},
		api.Value{Kind: -1},
		api.Value{N: 1},
		api.Value{S: "a"},
		api.Value{L: []api.Value{{}}},
		api.Value{Kind: api.IntV, N: 1, S: "a"},
		api.Value{Kind: api.IntV, N: 1, L: []api.Value{num(1)}},
		api.Value{Kind: api.TextV, N: 1, S: "ab"},
		api.Value{Kind: api.ListV, N: 1},
		api.Value{Kind: api.ListV, S: "a"},
		text("a"), text("A"), text("ba"), text("abc"), text("\x00"),
		list(num(0)), list(num(1)), list(text("")), list(list()), list(api.Value{}),
		list(num(0), num(1)), list(num(1), num(0)), list(num(0), num(0)),
		list(list(num(0)), num(0)), list(list(num(0), num(0))), list(list(), list()),
		within(20, num(0)), within(20, num(1)), within(21, num(0)),
		within(1<<16, num(0)), within(1<<16, text("")),
	)
}

// copied returns v with memory of its own; empty slices are nil or not, as in other copies they are not.
func copied(v api.Value, empty []api.Value) api.Value {
	l := empty
	for _, x := range v.L {
		l = append(l, copied(x, empty))
	}
	v.S, v.L = strings.Clone(v.S), l
	return v
}

func TestSame(t *testing.T) {
	l := variety()
	for i, x := range l {
		for k, y := range l {
			if Same(copied(x, nil), copied(y, []api.Value{})) != (i == k) {
				t.Errorf("%d %d", i, k)
			}
		}
	}
	if Same(text(""), list()) {
		t.Error("the empty text and the empty list")
	}
}

func TestDecodeOfEncode(t *testing.T) {
	for i, v := range variety() {
		b, e := Encode(v)
		if e != api.OK {
			continue
		}
		w, f := Decode(b)
		c, g := Encode(w)
		if f != api.OK || !Same(v, w) || g != api.OK || !bytes.Equal(b, c) {
			t.Errorf("%d: %d %d", i, f, g)
		}
	}
	for n := -1 << 15; n <= 1<<15; n++ {
		b, e := Encode(num(n))
		v, f := Decode(b)
		if e != api.OK || f != api.OK || !Same(v, num(n)) {
			t.Errorf("%d: %d %v", n, b, v)
		}
	}
}

func TestEncodingsDiffer(t *testing.T) {
	var l [][]byte
	for _, v := range variety() {
		if b, e := Encode(v); e == api.OK {
			l = append(l, b)
		}
	}
	for i, b := range l {
		for k, c := range l {
			if i != k && bytes.HasPrefix(b, c) {
				t.Errorf("%d begins with %d", i, k)
			}
		}
		for n := range min(len(b), 1000) {
			isNoEncoding(t, "a beginning", b[:n])
		}
		isNoEncoding(t, "an encoding and a byte", join(b, []byte{0}))
	}
}

func TestSizeOfList(t *testing.T) {
	zeros := func(n int) api.Value { return list(slices.Repeat([]api.Value{num(0)}, n)...) }
	size := func(v api.Value) int {
		n, e := Size(v)
		if e != api.OK {
			t.Fatal(e)
		}
		return n
	}
	elements := []api.Value{num(1 << 40), text("abc"), list(num(3), list()), num(-1)}
	for _, many := range []int{0, 1, 4, 126, 127, 128, 129, 16383, 16384} {
		v, want := list(), size(zeros(many))-many*size(num(0))
		for i := range many {
			x := elements[i%len(elements)]
			v.L = append(v.L, x)
			want += size(x)
		}
		if n := size(v); n != want {
			t.Errorf("%d elements: %d instead of %d", many, n, want)
		}
	}
}

// TestPure makes sure that no call modifies its arguments, and that later calls and writes leave results as they are.
func TestPure(t *testing.T) {
	v := list(text("abc"), list(num(1), num(2)), num(3))
	room := v.L[:2]
	v.L = room
	b, _ := Encode(v)
	first := slices.Clone(b)
	w, _ := Decode(b)
	if !bytes.Equal(b, first) || !Same(room[:3][2], num(3)) {
		t.Error("an argument was modified")
	}
	c, _ := Encode(v)
	clear(b)
	if !bytes.Equal(c, first) || !Same(w, list(text("abc"), list(num(1), num(2)))) {
		t.Error("a result shares memory")
	}
	spare := append(slices.Clone(first), 7, 7)
	if x, e := Decode(spare[:len(first)]); e != api.OK || !Same(x, w) || !bytes.Equal(spare[len(first):], []byte{7, 7}) {
		t.Error("bytes behind the argument matter")
	}
	w.L[1].L[0] = num(9)
	if x, _ := Decode(c); !Same(x, v) {
		t.Error("results share memory")
	}
}

func FuzzDecode(f *testing.F) {
	for _, x := range examples() {
		f.Add(x.b)
	}
	f.Fuzz(func(t *testing.T, b []byte) {
		v, e := Decode(b)
		if e == api.ErrCode && Same(v, api.Value{}) {
			return
		}
		c, g := Encode(v)
		n, h := Size(v)
		if e != api.OK || g != api.OK || !bytes.Equal(b, c) || h != api.OK || n != len(b) {
			t.Errorf("%d: %v %d, %d %d, %d %d", b, v, e, c, g, n, h)
		}
	})
}
