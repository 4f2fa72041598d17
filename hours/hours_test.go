package hours

import (
	"encoding/binary"
	"math"
	"slices"
	"testing"

	"overflight/api"
)

// ends are numbers at which spans may begin and end: most of them near the ends of the day, or as far from it as possible.
var ends = []int{math.MinInt, math.MinInt + 1, -1 << 40, -1440, -2, -1, 0, 1, 2, 700, 701, 1438, 1439, 1440, 1441, 2880, 1 << 40, math.MaxInt - 1, math.MaxInt}

// lists are sets of different kinds: empty, full, of single minutes, of spans that touch, overlap, lie in disorder, outside the day or backwards.
var lists = slices.Concat([][]api.Span{
	nil, {}, spans(5, 5), spans(9, 3), spans(-9, -3), spans(1440, 1500), spans(-9, 0),
	spans(0, 1440), spans(-5, 2000), spans(math.MinInt, math.MaxInt), spans(math.MaxInt, math.MinInt),
	spans(0, 1), spans(1439, 1440), spans(1439, 1440, 0, 1), spans(1439, math.MaxInt, math.MinInt, 1),
	spans(10, 20, 15, 30), spans(20, 30, 10, 20), spans(10, 20, 21, 30), spans(10, 30, 15, 20, 10, 30),
	spans(700, 750, 751, 800, 749, 752), spans(3, 9, 9, 3, 4, 4), spans(100, 1300),
	everyOther(0), everyOther(1),
}, randomLists(24))

// spans returns the spans with the ends n.
func spans(n ...int) (l []api.Span) {
	for pair := range slices.Chunk(n, 2) {
		l = append(l, api.Span{From: pair[0], To: pair[1]})
	}
	return l
}

// everyOther returns spans of one minute each, of every other minute.
func everyOther(first int) (l []api.Span) {
	for m := first; m < 1440; m += 2 {
		l = append(l, api.Span{From: m, To: m + 1})
	}
	return l
}

// randomLists returns lists that are the same in each run.
func randomLists(n int) (l [][]api.Span) {
	next := random()
	for range n {
		one := make([]api.Span, 1+next(12))
		for i := range one {
			from := next(1700) - 130
			one[i] = api.Span{From: from, To: from - 10 + next(250)}
		}
		l = append(l, one)
	}
	return l
}

// random returns numbers from 0 to n - 1 that are the same in each run.
func random() func(n int) int {
	x := uint64(88172645463325252)
	return func(n int) int {
		x ^= x << 13
		x ^= x >> 7
		x ^= x << 17
		return int(x % uint64(n))
	}
}

// refHas is the definition of the minutes of a list.
func refHas(l []api.Span, m int) bool {
	for _, s := range l {
		if 0 <= m && m <= 1439 && s.From <= m && m < s.To {
			return true
		}
	}
	return false
}

// refNormal is the definition of the normal list of the minutes from 0 to 1439 that are in a set.
func refNormal(in func(m int) bool) (x []api.Span) {
	for m := range 1440 {
		if !in(m) {
			continue
		}
		if m == 0 || !in(m-1) {
			x = append(x, api.Span{From: m})
		}
		x[len(x)-1].To = m + 1
	}
	return x
}

// refCovers is the definition of Covers; it ends soon, because numbers outside the day are no minutes of a list.
func refCovers(l []api.Span, s api.Span) bool {
	for m := s.From; m < s.To; m++ {
		if !refHas(l, m) {
			return false
		}
	}
	return true
}

// refCheck is the definition of Check.
func refCheck(l []api.Span) api.Errno {
	for _, s := range l {
		if !(0 <= s.From && s.From < s.To && s.To <= 1440) {
			return api.ErrHours
		}
	}
	return api.OK
}

// want fails the test unless a call returned the spans that are expected.
func want(t *testing.T, x, wanted []api.Span, call ...any) {
	t.Helper()
	if !slices.Equal(x, wanted) {
		t.Errorf("%v: got %v, want %v", call, x, wanted)
	}
}

func TestCheck(t *testing.T) {
	for _, from := range ends {
		for _, to := range ends {
			wanted := api.OK
			if from < 0 || to > 1440 || from >= to {
				wanted = api.ErrHours
			}
			for i, l := range [][]api.Span{spans(from, to), spans(0, 1440, from, to), spans(from, to, 0, 1440), spans(30, 40, from, to, 20, 30)} {
				if e := Check(l); e != wanted {
					t.Errorf("%d: the span from %d to %d: got %d, want %d", i, from, to, e, wanted)
				}
			}
		}
	}
	for _, l := range lists {
		if e := Check(l); e != refCheck(l) {
			t.Errorf("%v: got %d", l, e)
		}
	}
	if Check(nil) != api.OK || Check(make([]api.Span, 0)) != api.OK || Check(make([]api.Span, 1)) != api.ErrHours {
		t.Error("no spans are accepted, and the zero span is not")
	}
}

func TestCheckNeedsNoOrder(t *testing.T) {
	for _, l := range [][]api.Span{spans(20, 30, 10, 20), spans(10, 20, 10, 20), spans(10, 30, 15, 20), spans(1439, 1440, 0, 1440, 0, 1)} {
		if e := Check(l); e != api.OK {
			t.Errorf("%v: got %d", l, e)
		}
	}
}

func TestNormal(t *testing.T) {
	for _, x := range []struct{ l, wanted []api.Span }{
		{nil, nil},
		{spans(5, 5), nil},
		{spans(9, 3), nil},
		{spans(-5, 2000), spans(0, 1440)},
		{spans(math.MinInt, math.MaxInt), spans(0, 1440)},
		{spans(math.MaxInt, math.MinInt), nil},
		{spans(-5, 0, 1440, 1445), nil},
		{spans(-5, 1, 1439, 1445), spans(0, 1, 1439, 1440)},
		{spans(10, 20, 15, 30), spans(10, 30)},
		{spans(10, 20, 20, 30), spans(10, 30)},
		{spans(10, 20, 21, 30), spans(10, 20, 21, 30)},
		{spans(30, 40, 10, 20), spans(10, 20, 30, 40)},
		{spans(10, 40, 20, 30), spans(10, 40)},
		{spans(20, 30, 10, 40), spans(10, 40)},
		{spans(20, 10, 12, 18), spans(12, 18)},
		{spans(12, 18, 20, 10), spans(12, 18)},
		{everyOther(0), everyOther(0)},
		{slices.Concat(everyOther(1), everyOther(0)), spans(0, 1440)},
	} {
		want(t, Normal(x.l), x.wanted, "Normal", x.l)
	}
	for _, l := range lists {
		want(t, Normal(l), refNormal(func(m int) bool { return refHas(l, m) }), "Normal", l)
	}
}

func TestNormalOfEverySpan(t *testing.T) {
	for _, from := range ends {
		for _, to := range ends {
			l := spans(from, to)
			want(t, Normal(l), refNormal(func(m int) bool { return refHas(l, m) }), "Normal", l)
		}
	}
}

func TestNormalOfManySpans(t *testing.T) {
	const many = 1 << 20
	want(t, Normal(slices.Repeat(spans(math.MinInt, math.MaxInt), many)), spans(0, 1440), "many long spans")
	want(t, Normal(slices.Repeat(spans(7, 7, 9, 3), many)), nil, "many spans without minutes")
	want(t, Normal(slices.Repeat(spans(3, 9, 9, 3, 12, 15), many)), spans(3, 9, 12, 15), "many short spans")
}

func TestSets(t *testing.T) {
	for _, x := range []struct{ a, b, union, meet, minus []api.Span }{
		{nil, nil, nil, nil, nil},
		{spans(0, 1440), spans(0, 10), spans(0, 1440), spans(0, 10), spans(10, 1440)},
		{spans(0, 10), spans(0, 1440), spans(0, 1440), spans(0, 10), nil},
		{spans(-10, 2000), spans(-5, 10, 1430, 1500), spans(0, 1440), spans(0, 10, 1430, 1440), spans(10, 1430)},
		{spans(10, 20), spans(20, 30), spans(10, 30), nil, spans(10, 20)},
		{spans(10, 20), spans(19, 30), spans(10, 30), spans(19, 20), spans(10, 19)},
		{spans(10, 20), spans(15, 15, 18, 12), spans(10, 20), nil, spans(10, 20)},
		{spans(10, 20, 15, 30), spans(12, 14, 25, 40), spans(10, 40), spans(12, 14, 25, 30), spans(10, 12, 14, 25)},
		{spans(1440, 1500, -7, 0), spans(5, 6), spans(5, 6), nil, nil},
		{spans(5, 6), spans(1440, 1500, -7, 0), spans(5, 6), nil, spans(5, 6)},
		{everyOther(0), everyOther(1), spans(0, 1440), nil, everyOther(0)},
	} {
		want(t, Union(x.a, x.b), x.union, "Union", x.a, x.b)
		want(t, Meet(x.a, x.b), x.meet, "Meet", x.a, x.b)
		want(t, Minus(x.a, x.b), x.minus, "Minus", x.a, x.b)
	}
}

// wantSets compares the sets of two lists with their definitions.
func wantSets(t *testing.T, a, b []api.Span) {
	t.Helper()
	want(t, Union(a, b), refNormal(func(m int) bool { return refHas(a, m) || refHas(b, m) }), "Union", a, b)
	want(t, Meet(a, b), refNormal(func(m int) bool { return refHas(a, m) && refHas(b, m) }), "Meet", a, b)
	want(t, Minus(a, b), refNormal(func(m int) bool { return refHas(a, m) && !refHas(b, m) }), "Minus", a, b)
}

func TestSetsOfAllPairs(t *testing.T) {
	short := lists[:len(lists)-12]
	for _, a := range short {
		for _, b := range short {
			wantSets(t, a, b)
		}
	}
}

func TestHas(t *testing.T) {
	for _, x := range []struct {
		l      []api.Span
		minute int
		ok     bool
	}{
		{nil, 0, false},
		{spans(0, 1), 0, true},
		{spans(0, 1), 1, false},
		{spans(5, 5), 5, false},
		{spans(9, 3), 5, false},
		{spans(10, 20), 9, false},
		{spans(10, 20), 10, true},
		{spans(10, 20), 19, true},
		{spans(10, 20), 20, false},
		{spans(30, 40, 10, 20), 10, true},
		{spans(30, 40, 10, 20), 25, false},
		{spans(math.MinInt, math.MaxInt), -1, false},
		{spans(math.MinInt, math.MaxInt), 0, true},
		{spans(math.MinInt, math.MaxInt), 1439, true},
		{spans(math.MinInt, math.MaxInt), 1440, false},
		{spans(math.MinInt, math.MaxInt), math.MinInt, false},
		{spans(math.MinInt, math.MaxInt), math.MaxInt, false},
		{spans(1440, 1500), 1440, false},
		{spans(-5, 0), -5, false},
	} {
		if Has(x.l, x.minute) != x.ok {
			t.Errorf("Has(%v, %d): want %v", x.l, x.minute, x.ok)
		}
	}
	for _, l := range lists {
		for m := -3; m < 1444; m++ {
			if Has(l, m) != refHas(l, m) {
				t.Errorf("Has(%v, %d): want %v", l, m, refHas(l, m))
			}
		}
		for _, m := range ends {
			if Has(l, m) != refHas(l, m) {
				t.Errorf("Has(%v, %d): want %v", l, m, refHas(l, m))
			}
		}
	}
}

func TestCovers(t *testing.T) {
	day, touching := spans(math.MinInt, math.MaxInt), spans(10, 20, 0, 10)
	for _, x := range []struct {
		l        []api.Span
		from, to int
		ok       bool
	}{
		{nil, 7, 7, true},
		{nil, 7, 6, true},
		{nil, 7, 8, false},
		{nil, math.MaxInt, math.MinInt, true},
		{nil, math.MinInt, math.MinInt, true},
		{nil, 1440, 1440, true},
		{touching, 5, 15, true},
		{touching, 0, 20, true},
		{touching, 0, 21, false},
		{touching, -1, 5, false},
		{touching, 25, 30, false},
		{spans(0, 10, 11, 20), 5, 15, false},
		{spans(0, 10, 11, 20), 10, 11, false},
		{spans(0, 10, 11, 20), 11, 20, true},
		{spans(20, 10), 12, 15, false},
		{day, 0, 1440, true},
		{day, -1, 1440, false},
		{day, 0, 1441, false},
		{day, -5, -3, false},
		{day, -5, -5, true},
		{day, 1440, 1441, false},
		{day, 1500, 1400, true},
		{day, math.MinInt, math.MaxInt, false},
		{day, math.MaxInt - 1, math.MaxInt, false},
		{day, math.MinInt, math.MinInt + 1, false},
		{spans(1440, 1500), 1440, 1450, false},
		{spans(-9, 0), -5, -3, false},
	} {
		if Covers(x.l, api.Span{From: x.from, To: x.to}) != x.ok {
			t.Errorf("Covers(%v, %d, %d): want %v", x.l, x.from, x.to, x.ok)
		}
	}
}

func TestCoversAllSpans(t *testing.T) {
	next := random()
	for _, l := range lists {
		tried := spans()
		for _, from := range ends {
			for _, to := range ends {
				tried = append(tried, api.Span{From: from, To: to})
			}
		}
		for _, s := range Normal(l) {
			tried = append(tried, s, api.Span{From: s.From - 1, To: s.To}, api.Span{From: s.From, To: s.To + 1}, api.Span{From: s.From + 1, To: s.To - 1})
		}
		for range 100 {
			from := next(1460) - 10
			tried = append(tried, api.Span{From: from, To: from + next(60) - 5})
		}
		for _, s := range tried {
			if Covers(l, s) != refCovers(l, s) {
				t.Errorf("Covers(%v, %v): want %v", l, s, refCovers(l, s))
			}
		}
	}
}

func TestNormalLists(t *testing.T) {
	for _, l := range lists {
		x := Normal(l)
		if e := Check(x); e != api.OK {
			t.Errorf("Normal(%v) is %v, which is not accepted: %d", l, x, e)
		}
		want(t, Normal(x), x, "Normal of Normal", l)
		backwards := slices.Clone(x)
		slices.Reverse(backwards)
		want(t, Normal(slices.Concat(backwards, x)), x, "a list twice, and backwards", l)
		want(t, Union(l, l), x, "Union with itself", l)
		want(t, Meet(l, l), x, "Meet with itself", l)
		want(t, Minus(l, l), nil, "Minus itself", l)
	}
}

func TestLawsOfPairs(t *testing.T) {
	for _, a := range lists {
		for _, b := range lists {
			want(t, Union(a, b), Union(b, a), "Union", a, b)
			want(t, Union(a, b), Normal(slices.Concat(a, b)), "Union as one list", a, b)
			want(t, Meet(a, b), Meet(b, a), "Meet", a, b)
			want(t, Union(Minus(a, b), Meet(a, b)), Normal(a), "Minus and Meet together", a, b)
			want(t, Meet(Minus(a, b), Meet(a, b)), nil, "what Minus and Meet have in common", a, b)
			for _, x := range [][]api.Span{Union(a, b), Meet(a, b), Minus(a, b)} {
				if e := Check(x); e != api.OK {
					t.Errorf("of %v and %v: %v is not accepted: %d", a, b, x, e)
				}
				want(t, Normal(x), x, "Normal of a set of", a, b)
			}
		}
	}
}

func TestCoversWhatMinusLeavesEmpty(t *testing.T) {
	for _, a := range lists {
		for _, s := range slices.Concat(lists...) {
			inDay := s.From >= 0 && s.To <= 1440
			if !inDay && s.From < s.To {
				continue // since no set covers it, whatever is left in the day
			}
			if left := Minus([]api.Span{s}, a); Covers(a, s) != (len(left) == 0) {
				t.Errorf("Covers(%v, %v) is %v, and %v is left", a, s, Covers(a, s), left)
			}
		}
	}
}

func TestLawsOfTriples(t *testing.T) {
	for i, a := range lists {
		for j, b := range lists {
			c := lists[(7*i+5*j)%len(lists)]
			want(t, Union(Union(a, b), c), Union(a, Union(b, c)), "Union", a, b, c)
			want(t, Meet(Meet(a, b), c), Meet(a, Meet(b, c)), "Meet", a, b, c)
			want(t, Meet(a, Union(b, c)), Union(Meet(a, b), Meet(a, c)), "Meet of Union", a, b, c)
			want(t, Union(a, Meet(b, c)), Meet(Union(a, b), Union(a, c)), "Union of Meet", a, b, c)
		}
	}
}

func TestArgumentsAndResultsAreKept(t *testing.T) {
	calls := []func(a, b []api.Span) []api.Span{
		func(a, b []api.Span) []api.Span { return Normal(a) }, Union, Meet, Minus,
	}
	for i, call := range calls {
		for _, a := range lists {
			b := spans(20, 30, 10, 20, 25, 40)
			oldA, oldB := slices.Clone(a), slices.Clone(b)
			x := call(a, b)
			old := slices.Clone(x)
			want(t, call(a, b), old, "the same call again", i, a, b)
			Check(a)
			Has(a, 5)
			Covers(a, api.Span{From: 3, To: 5})
			call(b, a)
			want(t, x, old, "a result after other calls", i, a, b)
			for j := range x {
				x[j] = api.Span{From: -1, To: -1}
			}
			want(t, a, oldA, "the first argument", i)
			want(t, b, oldB, "the second argument", i)
			want(t, call(a, b), old, "the same call after a change of its result", i, a, b)
		}
	}
}

func TestEmptyListsAreEquivalent(t *testing.T) {
	empty := []api.Span{}
	for _, l := range lists {
		want(t, Union(l, nil), Union(l, empty), "Union", l)
		want(t, Union(l, nil), Normal(l), "Union with nothing", l)
		want(t, Meet(l, nil), Meet(l, empty), "Meet", l)
		want(t, Meet(l, nil), nil, "Meet with nothing", l)
		want(t, Minus(l, nil), Minus(l, empty), "Minus", l)
		want(t, Minus(l, nil), Normal(l), "Minus nothing", l)
		want(t, Minus(nil, l), nil, "nothing without a list", l)
	}
	if Has(empty, 5) || Covers(empty, api.Span{From: 5, To: 6}) || !Covers(empty, api.Span{From: 5, To: 5}) {
		t.Error("an empty list has no minutes, and covers spans without minutes alone")
	}
}

// spansOf reads spans with ends near the day from bytes.
func spansOf(b []byte) (l []api.Span) {
	for ; len(b) >= 4; b = b[4:] {
		from, to := int(int16(binary.BigEndian.Uint16(b))), int(int16(binary.BigEndian.Uint16(b[2:])))
		l = append(l, api.Span{From: from % 1600, To: to % 1600})
	}
	return l
}

func FuzzSets(f *testing.F) {
	f.Add([]byte{}, []byte{}, 0, 0)
	f.Add([]byte{0, 10, 0, 20}, []byte{0, 15, 0, 30, 0, 3, 0, 3}, 12, 15)
	f.Add([]byte{255, 251, 6, 64}, []byte{0, 9, 0, 3}, math.MinInt, math.MaxInt)
	f.Fuzz(func(t *testing.T, one, other []byte, from, to int) {
		if len(one)+len(other) > 400 {
			return // because the definitions take long
		}
		a := append(spansOf(one), api.Span{From: from, To: to})
		b := spansOf(other)
		wantSets(t, a, b)
		want(t, Normal(a), refNormal(func(m int) bool { return refHas(a, m) }), "Normal", a)
		if Check(a) != refCheck(a) || Check(b) != refCheck(b) {
			t.Errorf("Check(%v) is %d, Check(%v) is %d", a, Check(a), b, Check(b))
		}
		for _, m := range []int{from, to} {
			if Has(b, m) != refHas(b, m) {
				t.Errorf("Has(%v, %d) is %v", b, m, Has(b, m))
			}
		}
		for _, s := range a {
			if Covers(b, s) != refCovers(b, s) {
				t.Errorf("Covers(%v, %v) is %v", b, s, Covers(b, s))
			}
		}
	})
}
