package vector

import (
	"encoding/binary"
	"fmt"
	"math"
	"slices"
	"testing"

	"overflight/api"
)

const most = 1 << 60

func vec(n ...int) []int { return n }

func list(l ...[]int) [][]int { return l }

// random returns numbers from 0 to n - 1 that are the same in each run.
func random() func(n int) int {
	x := uint64(88172645463325252)
	return func(n int) int {
		x ^= x << 13
		x ^= x >> 7
		x ^= x << 17
		return int(x % uint64(n))
	}
}

// randomList returns n vectors with d components from -k to k.
func randomList(next func(n int) int, n, d, k int) [][]int {
	l := make([][]int, n)
	for i := range l {
		l[i] = make([]int, d)
		for j := range l[i] {
			l[i][j] = next(2*k+1) - k
		}
	}
	return l
}

// randomLists returns lists of alike vectors, which repeat some of them if there are few components and few numbers.
func randomLists(next func(n int) int, many, d int) (x [][][]int) {
	for i := range many {
		x = append(x, randomList(next, i%9, d, 1+i%7))
	}
	return x
}

// falling returns the vectors (i * step, -i * step) for i from 0 to n - 1, none of which is below another one, in order.
func falling(n, step int) [][]int {
	l := make([][]int, n)
	for i := range l {
		l[i] = vec(i*step, -i*step)
	}
	return l
}

// copyOf returns a list that shares no memory.
func copyOf(l [][]int) [][]int {
	x := make([][]int, len(l))
	for i := range l {
		x[i] = append([]int{}, l[i]...)
	}
	return x
}

// short returns the beginning of a list in words.
func short(l [][]int) string {
	s := fmt.Sprint(l)
	return s[:min(len(s), 300)]
}

func same(a, b [][]int) bool { return slices.EqualFunc(a, b, slices.Equal) }

// refBelow is the definition of Below for alike vectors.
func refBelow(a, b []int) bool {
	for i := range a {
		if a[i] > b[i] {
			return false
		}
	}
	return true
}

// refLeast is the definition of Least without errors.
func refLeast(l [][]int) (x [][]int) {
	for _, v := range l {
		isLeast := true
		for _, w := range l {
			isLeast = isLeast && (slices.Equal(v, w) || !refBelow(w, v))
		}
		if isLeast {
			x = append(x, v)
		}
	}
	slices.SortFunc(x, slices.Compare)
	return slices.CompactFunc(x, slices.Equal)
}

// refSums returns all sums of two lists.
func refSums(a, b [][]int) (x [][]int) {
	for _, v := range a {
		for _, w := range b {
			s := make([]int, len(v))
			for i := range s {
				s[i] = v[i] + w[i]
			}
			x = append(x, s)
		}
	}
	return x
}

// refFits is the definition of Fits without errors.
func refFits(l [][]int, budget []int) bool {
	for _, v := range l {
		if refBelow(v, budget) {
			return true
		}
	}
	return false
}

// wantLeast fails the test unless Least returns what is expected.
func wantLeast(t *testing.T, l, wanted [][]int, e api.Errno) {
	t.Helper()
	if x, err := Least(l); !same(x, wanted) || err != e {
		t.Errorf("Least(%s): got %s, %d, want %s, %d", short(l), short(x), err, short(wanted), e)
	}
}

// wantSums fails the test unless Sums returns what is expected, for the lists in both orders.
func wantSums(t *testing.T, a, b, wanted [][]int, e api.Errno) {
	t.Helper()
	for range 2 {
		if x, err := Sums(a, b); !same(x, wanted) || err != e {
			t.Errorf("Sums(%s, %s): got %s, %d, want %s, %d", short(a), short(b), short(x), err, short(wanted), e)
		}
		a, b = b, a
	}
}

// wantFits fails the test unless Fits returns what is expected.
func wantFits(t *testing.T, l [][]int, budget []int, wanted bool, e api.Errno) {
	t.Helper()
	if ok, err := Fits(l, budget); ok != wanted || err != e {
		t.Errorf("Fits(%s, %v): got %v, %d, want %v, %d", short(l), budget, ok, err, wanted, e)
	}
}

func TestAdd(t *testing.T) {
	for _, x := range []struct {
		a, b, c []int
		e       api.Errno
	}{
		{nil, nil, nil, api.OK},
		{vec(), nil, nil, api.OK},
		{vec(0), vec(0), vec(0), api.OK},
		{vec(1, 5), vec(2, 4), vec(3, 9), api.OK},
		{vec(1, -5, 7), vec(-2, 4, 100), vec(-1, -1, 107), api.OK},
		{vec(most), vec(most), vec(2 * most), api.OK},
		{vec(-most), vec(-most), vec(-2 * most), api.OK},
		{vec(most, -most), vec(-most, most), vec(0, 0), api.OK},
		{vec(most + 1), vec(0), nil, api.ErrVector},
		{vec(0), vec(most + 1), nil, api.ErrVector},
		{vec(-most - 1), vec(0), nil, api.ErrVector},
		{vec(0), vec(-most - 1), nil, api.ErrVector},
		{vec(0, most+1), vec(0, -most-1), nil, api.ErrVector},
		{vec(1, 2, 3), vec(1, 2, math.MaxInt), nil, api.ErrVector},
		{vec(1, math.MinInt, 3), vec(1, 2, 3), nil, api.ErrVector},
		{vec(1), vec(1, 2), nil, api.ErrVector},
		{vec(1, 2), vec(1), nil, api.ErrVector},
		{nil, vec(1), nil, api.ErrVector},
		{vec(1), nil, nil, api.ErrVector},
	} {
		if c, e := Add(x.a, x.b); !slices.Equal(c, x.c) || e != x.e {
			t.Errorf("Add(%v, %v): got %v, %d", x.a, x.b, c, e)
		}
		if c, e := Add(x.b, x.a); !slices.Equal(c, x.c) || e != x.e {
			t.Errorf("Add(%v, %v): got %v, %d", x.b, x.a, c, e)
		}
	}
}

func TestBelowAndCompare(t *testing.T) {
	for _, x := range []struct {
		a, b         []int
		below, above bool
		n            int
	}{
		{nil, nil, true, true, 0},
		{nil, vec(), true, true, 0},
		{vec(7), vec(7), true, true, 0},
		{vec(7), vec(8), true, false, -1},
		{vec(-8), vec(7), true, false, -1},
		{vec(1, 5), vec(2, 4), false, false, -1},
		{vec(1, 4), vec(1, 5), true, false, -1},
		{vec(1, 4), vec(2, 4), true, false, -1},
		{vec(1, 4), vec(2, 5), true, false, -1},
		{vec(0, 9, 9), vec(1, 0, 0), false, false, -1},
		{vec(3, 3, 3, 4), vec(3, 3, 3, 5), true, false, -1},
		{vec(3, 3, 3, 4, 9), vec(3, 3, 3, 5, 8), false, false, -1},
		{vec(math.MinInt), vec(math.MaxInt), true, false, -1},
		{vec(math.MinInt), vec(1), true, false, -1},
		{vec(-2), vec(math.MaxInt), true, false, -1},
		{vec(math.MaxInt - 1), vec(math.MaxInt), true, false, -1},
		{vec(math.MinInt, math.MaxInt), vec(math.MaxInt, math.MinInt), false, false, -1},
		{vec(math.MaxInt, math.MinInt), vec(math.MaxInt, math.MinInt), true, true, 0},
	} {
		if ok, e := Below(x.a, x.b); ok != x.below || e != api.OK {
			t.Errorf("Below(%v, %v): got %v, %d", x.a, x.b, ok, e)
		}
		if ok, e := Below(x.b, x.a); ok != x.above || e != api.OK {
			t.Errorf("Below(%v, %v): got %v, %d", x.b, x.a, ok, e)
		}
		if n, e := Compare(x.a, x.b); n != x.n || e != api.OK {
			t.Errorf("Compare(%v, %v): got %d, %d", x.a, x.b, n, e)
		}
		if n, e := Compare(x.b, x.a); n != -x.n || e != api.OK {
			t.Errorf("Compare(%v, %v): got %d, %d", x.b, x.a, n, e)
		}
	}
}

func TestVectorsThatAreNotAlikeAreNotCompared(t *testing.T) {
	for _, x := range []struct{ a, b []int }{
		{nil, vec(0)}, {vec(0), vec()}, {vec(1), vec(1, 2)}, {vec(2, 1), vec(1)}, {vec(1, 2, 3), vec(1, 2)},
	} {
		if ok, e := Below(x.a, x.b); ok || e != api.ErrVector {
			t.Errorf("Below(%v, %v): got %v, %d", x.a, x.b, ok, e)
		}
		if n, e := Compare(x.a, x.b); n != 0 || e != api.ErrVector {
			t.Errorf("Compare(%v, %v): got %d, %d", x.a, x.b, n, e)
		}
	}
}

func TestLeast(t *testing.T) {
	for _, x := range []struct{ l, wanted [][]int }{
		{nil, nil},
		{list(), nil},
		{list(nil), list(nil)},
		{list(nil, vec(), nil), list(nil)},
		{list(vec(5)), list(vec(5))},
		{list(vec(5), vec(-5), vec(7)), list(vec(-5))},
		{list(vec(1, 5), vec(2, 4), vec(2, 5), vec(1, 5)), list(vec(1, 5), vec(2, 4))},
		{list(vec(2, 4), vec(1, 5)), list(vec(1, 5), vec(2, 4))},
		{list(vec(1, 1), vec(1, 2), vec(2, 1)), list(vec(1, 1))},
		{list(vec(2, 1), vec(1, 2), vec(1, 1)), list(vec(1, 1))},
		{list(vec(3, 0), vec(0, 3), vec(2, 2), vec(1, 3), vec(3, 1)), list(vec(0, 3), vec(2, 2), vec(3, 0))},
		{list(vec(0, 1, 0), vec(1, 0, 0), vec(0, 0, 1), vec(1, 1, 1)), list(vec(0, 0, 1), vec(0, 1, 0), vec(1, 0, 0))},
		{list(vec(0, 9), vec(1, 8), vec(2, 9), vec(3, 8), vec(4, 7)), list(vec(0, 9), vec(1, 8), vec(4, 7))},
		{list(vec(math.MaxInt), vec(math.MinInt)), list(vec(math.MinInt))},
		{list(vec(math.MaxInt, math.MinInt), vec(math.MinInt, math.MaxInt)), list(vec(math.MinInt, math.MaxInt), vec(math.MaxInt, math.MinInt))},
	} {
		wantLeast(t, x.l, x.wanted, api.OK)
	}
}

func TestLeastByDefinition(t *testing.T) {
	next := random()
	for d := range 6 {
		for _, l := range randomLists(next, 150, d) {
			wantLeast(t, l, refLeast(l), api.OK)
		}
		for k := range 5 {
			l := randomList(next, 200, d, 1+k*k*k)
			wantLeast(t, l, refLeast(l), api.OK)
		}
	}
}

func TestLeastRefuses(t *testing.T) {
	for _, l := range [][][]int{
		list(vec(1), vec(1, 2)), list(vec(1, 2), vec(1)), list(nil, vec(1)), list(vec(1), nil),
		list(vec(1, 2), vec(3, 4), vec(5)), list(vec(1), vec(2), vec(3), vec(4, 5), vec(6)),
	} {
		wantLeast(t, l, nil, api.ErrVector)
	}
	wantLeast(t, slices.Repeat(list(vec(7)), 4096), list(vec(7)), api.OK)
	wantLeast(t, slices.Repeat(list(vec(7)), 4097), nil, api.ErrLimit)
	wantLeast(t, slices.Repeat(list(nil), 4097), nil, api.ErrLimit)
	wantLeast(t, falling(4097, 1), nil, api.ErrLimit)
	wantLeast(t, append(falling(4096, 1), vec(5)), nil, api.ErrVector)
}

func TestLeastOfManyInAnyOrder(t *testing.T) {
	l, wanted := falling(4096, 1), falling(4096, 1)
	wantLeast(t, l, wanted, api.OK)
	slices.Reverse(l)
	wantLeast(t, l, wanted, api.OK)
	next := random()
	for i := range l {
		j := i + next(len(l)-i)
		l[i], l[j] = l[j], l[i]
	}
	wantLeast(t, l, wanted, api.OK)
}

func TestSums(t *testing.T) {
	for _, x := range []struct{ a, b, wanted [][]int }{
		{nil, nil, nil},
		{nil, list(vec(1)), nil},
		{list(), list(vec(1, 2), vec(2, 1)), nil},
		{list(nil), list(vec()), list(nil)},
		{list(nil, nil), list(vec(), vec(), vec()), list(nil)},
		{list(vec(3)), list(vec(4)), list(vec(7))},
		{list(vec(3), vec(-3)), list(vec(4), vec(-4)), list(vec(-7))},
		{list(vec(1, 5), vec(2, 4)), list(vec(0, 0)), list(vec(1, 5), vec(2, 4))},
		{list(vec(1, 5), vec(2, 4)), list(vec(1, 0), vec(0, 1)), list(vec(1, 6), vec(2, 5), vec(3, 4))},
		{list(vec(2, 4), vec(1, 5)), list(vec(0, 1), vec(1, 0)), list(vec(1, 6), vec(2, 5), vec(3, 4))},
		{list(vec(0, 9), vec(9, 0)), list(vec(0, 5), vec(1, 1), vec(5, 0)), list(vec(0, 14), vec(1, 10), vec(5, 9), vec(9, 5), vec(10, 1), vec(14, 0))},
		{list(vec(0, 2), vec(2, 0)), list(vec(0, 2), vec(1, 1), vec(2, 0)), list(vec(0, 4), vec(1, 3), vec(2, 2), vec(3, 1), vec(4, 0))},
		{list(vec(0, 3), vec(3, 0)), list(vec(0, 2), vec(2, 0), vec(2, 2)), list(vec(0, 5), vec(2, 3), vec(3, 2), vec(5, 0))},
		{list(vec(1, 1), vec(1, 1), vec(5, 5)), list(vec(2, 3), vec(4, 4)), list(vec(3, 4))},
		{list(vec(most)), list(vec(most)), list(vec(2 * most))},
		{list(vec(-most), vec(most)), list(vec(-most), vec(most)), list(vec(-2 * most))},
		{list(vec(-most, most), vec(most, -most)), list(vec(0, 0)), list(vec(-most, most), vec(most, -most))},
	} {
		wantSums(t, x.a, x.b, x.wanted, api.OK)
	}
}

func TestSumsByDefinition(t *testing.T) {
	next := random()
	for d := range 5 {
		lists := randomLists(next, 27, d)
		for _, a := range lists {
			for _, b := range lists {
				wantSums(t, a, b, refLeast(refSums(a, b)), api.OK)
			}
		}
		a, b := randomList(next, 30, d, 20), randomList(next, 40, d, 20)
		wantSums(t, a, b, refLeast(refSums(a, b)), api.OK)
	}
}

func TestSumsRefuses(t *testing.T) {
	for _, x := range []struct{ a, b [][]int }{
		{list(vec(1)), list(vec(1, 2))},
		{list(nil), list(vec(1))},
		{list(vec(1), vec(1, 2)), nil},
		{list(vec(1), vec(1, 2)), list(vec(1), vec(1, 2))},
		{list(vec(1, 2), vec(3, 4)), list(vec(1, 2), vec(3))},
		{list(vec(most + 1)), nil},
		{list(vec(-most - 1)), nil},
		{list(vec(most + 1)), list(vec(0))},
		{list(vec(0, 0), vec(0, math.MinInt)), list(vec(0, 0))},
		{list(vec(0), vec(math.MaxInt)), list(vec(0))},
	} {
		wantSums(t, x.a, x.b, nil, api.ErrVector)
	}
}

func TestSumsOfMany(t *testing.T) {
	sevens := func(n int) [][]int { return slices.Repeat(list(vec(7)), n) }
	for _, x := range []struct {
		a, b int
		e    api.Errno
	}{
		{4096, 0, api.OK}, {4097, 0, api.ErrLimit}, {4097, 1, api.ErrLimit}, {4096, 256, api.OK}, {4096, 257, api.ErrLimit},
		{1024, 1024, api.OK}, {1025, 1024, api.ErrLimit}, {4096, 4096, api.ErrLimit}, {1 << 20, 1, api.ErrLimit}, {4097, 4097, api.ErrLimit},
	} {
		wanted := list(vec(14))
		if x.e != api.OK || x.b == 0 {
			wanted = nil
		}
		wantSums(t, sevens(x.a), sevens(x.b), wanted, x.e)
	}
	wantSums(t, append(sevens(4097), vec(7, 7)), sevens(4097), nil, api.ErrVector)
	wantSums(t, sevens(4097), append(sevens(4097), vec(most+1)), nil, api.ErrVector)
}

func TestSumsKeepsAsManyAsAreLeast(t *testing.T) {
	wantSums(t, falling(64, 64), falling(64, 1), falling(4096, 1), api.OK)
	wantSums(t, falling(1024, 1), falling(1024, 1), falling(2047, 1), api.OK)
	wantSums(t, falling(4096, 1), list(vec(0, 0), vec(0, 5), vec(3, 3)), falling(4096, 1), api.OK)
	wantSums(t, falling(4096, 1), falling(1, 1), falling(4096, 1), api.OK)
	wantSums(t, falling(4096, 1), falling(2, 1), nil, api.ErrLimit)
	wantSums(t, falling(241, 17), falling(17, 1), nil, api.ErrLimit)
	wantSums(t, falling(1024, 1024), falling(1024, 1), nil, api.ErrLimit)
}

// TestSumsCountsWhatIsLeastInTheEnd has more than 4096 sums of a and b without their last vectors, none of which is below another one; but the sum of the last vectors is below all of them.
func TestSumsCountsWhatIsLeastInTheEnd(t *testing.T) {
	var a, b [][]int
	for i := range 100 {
		a = append(a, vec(0, 1000*i, -1000*i))
	}
	for i := range 50 {
		b = append(b, vec(0, i, -i))
	}
	wantSums(t, a, b, nil, api.ErrLimit)
	a, b = append(a, vec(1, -1000000, -1000000)), append(b, vec(-1, 50000, 50000))
	wanted := refLeast(refSums(a, b))
	if len(wanted) != 151 {
		t.Fatalf("%d sums are least", len(wanted))
	}
	wantSums(t, a, b, wanted, api.OK)
}

func TestFits(t *testing.T) {
	for _, x := range []struct {
		l      [][]int
		budget []int
		ok     bool
	}{
		{nil, nil, false},
		{nil, vec(1, 2, 3), false},
		{list(), vec(9), false},
		{list(nil), vec(), true},
		{list(vec(0, 0)), vec(0, 0), true},
		{list(vec(0, 1)), vec(0, 0), false},
		{list(vec(1, 0)), vec(0, 0), false},
		{list(vec(1, 0), vec(0, 1)), vec(0, 0), false},
		{list(vec(1, 0), vec(0, 1)), vec(0, 1), true},
		{list(vec(1, 0), vec(0, 1)), vec(1, 0), true},
		{list(vec(3, 3), vec(2, 4), vec(9, 9)), vec(2, 5), true},
		{list(vec(math.MinInt)), vec(math.MaxInt), true},
		{list(vec(math.MaxInt)), vec(math.MinInt), false},
		{slices.Repeat(list(vec(1)), 5000), vec(0), false},
		{slices.Repeat(list(vec(1)), 5000), vec(1), true},
	} {
		wantFits(t, x.l, x.budget, x.ok, api.OK)
	}
}

func TestFitsRefuses(t *testing.T) {
	for _, x := range []struct {
		l      [][]int
		budget []int
	}{
		{list(vec(1)), nil},
		{list(nil), vec(1)},
		{list(vec(1), vec(1, 2)), vec(1)},
		{list(vec(1), vec(1, 2)), vec(1, 2)},
		{list(vec(1, 2), vec(1, 2)), vec(1)},
		{list(vec(1, 2), vec(1, 2)), vec(1, 2, 3)},
	} {
		wantFits(t, x.l, x.budget, false, api.ErrVector)
	}
}

func TestFitsByDefinition(t *testing.T) {
	next := random()
	for d := range 5 {
		for _, l := range randomLists(next, 60, d) {
			for _, budget := range randomList(next, 30, d, 5) {
				wantFits(t, l, budget, refFits(l, budget), api.OK)
			}
		}
	}
}

func TestCompareIsATotalOrder(t *testing.T) {
	next := random()
	for d := range 4 {
		l := append(randomList(next, 20, d, 1), randomList(next, 20, d, math.MaxInt>>1)...)
		for _, a := range l {
			for _, b := range l {
				ab, _ := Compare(a, b)
				ba, _ := Compare(b, a)
				if ab != -ba || (ab == 0) != slices.Equal(a, b) {
					t.Errorf("Compare of %v and %v: %d, and %d the other way round", a, b, ab, ba)
				}
				if ok, _ := Below(a, b); ok && ab > 0 {
					t.Errorf("%v is below %v, and comes after it", a, b)
				}
				for _, c := range l {
					bc, _ := Compare(b, c)
					if ac, _ := Compare(a, c); ab <= 0 && bc <= 0 && ac > 0 {
						t.Errorf("%v, %v, %v are in order, and the first comes after the last", a, b, c)
					}
				}
			}
		}
	}
}

func TestEachVectorHasALeastOneBelowIt(t *testing.T) {
	next := random()
	for d := range 5 {
		for _, l := range randomLists(next, 60, d) {
			x, _ := Least(l)
			for i, v := range x {
				for j, w := range x {
					if ok, _ := Below(v, w); ok != (i == j) {
						t.Errorf("of the least vectors %v of %v, %v and %v: %v", x, l, v, w, ok)
					}
				}
			}
			for _, v := range l {
				wantFits(t, x, v, true, api.OK)
			}
			for _, budget := range randomList(next, 30, d, 6) {
				wantFits(t, x, budget, refFits(l, budget), api.OK)
			}
			wantLeast(t, x, x, api.OK)
		}
	}
}

func TestSumsFitIfTwoVectorsDo(t *testing.T) {
	next := random()
	for d := range 4 {
		lists := randomLists(next, 18, d)
		for _, a := range lists {
			for _, b := range lists {
				x, _ := Sums(a, b)
				for _, budget := range randomList(next, 20, d, 9) {
					wantFits(t, x, budget, refFits(refSums(a, b), budget), api.OK)
				}
			}
		}
	}
}

func TestAddingToBothKeepsWhichIsBelow(t *testing.T) {
	next := random()
	for d := range 4 {
		l := append(randomList(next, 15, d, 1), randomList(next, 15, d, most)...)
		for _, a := range l {
			for _, b := range l {
				old, _ := Below(a, b)
				for _, c := range l {
					ac, e := Add(a, c)
					bc, f := Add(b, c)
					if ok, _ := Below(ac, bc); ok != old || e != api.OK || f != api.OK {
						t.Errorf("Below(%v, %v) is %v, and with %v added to both %v", a, b, old, c, ok)
					}
				}
			}
		}
	}
}

// withSpace returns a list whose slices have further elements behind their ends.
func withSpace(l [][]int) [][]int {
	x := append(copyOf(l), vec(99))
	for i := range l {
		x[i] = append(x[i], 99)[:len(x[i])]
	}
	return x[:len(l)]
}

// spaceIsKept reports whether what lies behind the ends of withSpace is as it was.
func spaceIsKept(l [][]int) bool {
	for _, v := range l {
		if v[:len(v)+1][len(v)] != 99 {
			return false
		}
	}
	return slices.Equal(l[:len(l)+1][len(l)], vec(99))
}

func TestArgumentsAndResultsAreKept(t *testing.T) {
	next := random()
	for range 60 {
		a, b := withSpace(randomList(next, 1+next(8), 2, 4)), withSpace(randomList(next, 1+next(8), 2, 4))
		oldA, oldB := copyOf(a), copyOf(b)
		c, _ := Add(a[0], b[0])
		least, _ := Least(a)
		sums, _ := Sums(a, b)
		Below(a[0], b[0])
		Compare(a[0], b[0])
		Fits(a, b[0])
		if !same(a, oldA) || !same(b, oldB) || !spaceIsKept(a) || !spaceIsKept(b) {
			t.Fatalf("the arguments %v and %v have become %v and %v", oldA, oldB, a, b)
		}
		results := [][][]int{list(c), least, sums}
		old := [][][]int{copyOf(list(c)), copyOf(least), copyOf(sums)}
		for _, l := range [][][]int{a, b} {
			for _, v := range l {
				clear(v)
			}
			clear(l)
		}
		for i, x := range results {
			if !same(x, old[i]) {
				t.Fatalf("result %d has changed with the arguments: %v, it was %v", i, x, old[i])
			}
		}
		wantOwnMemory(t, slices.Concat(results...), slices.Concat(old...))
	}
}

// wantOwnMemory overwrites one vector after the other, and fails the test unless those that follow remain as they were.
func wantOwnMemory(t *testing.T, results, old [][]int) {
	t.Helper()
	for i, v := range results {
		if !slices.Equal(v, old[i]) {
			t.Fatalf("the vector %d of the results shares memory: %v, it was %v", i, v, old[i])
		}
		for j := range v[:cap(v)] {
			v[:cap(v)][j] = -1000
		}
	}
}

func TestEmptyVectorsAreEquivalent(t *testing.T) {
	for _, a := range [][]int{nil, {}} {
		for _, b := range [][]int{nil, {}} {
			if c, e := Add(a, b); len(c) != 0 || e != api.OK {
				t.Errorf("Add: %v, %d", c, e)
			}
			if ok, e := Below(a, b); !ok || e != api.OK {
				t.Errorf("Below: %v, %d", ok, e)
			}
			if n, e := Compare(a, b); n != 0 || e != api.OK {
				t.Errorf("Compare: %v, %d", n, e)
			}
			wantLeast(t, list(a, b), list(nil), api.OK)
			wantSums(t, list(a), list(b), list(nil), api.OK)
			wantFits(t, list(a), b, true, api.OK)
		}
	}
}

// vectorsOf reads vectors with d components from bytes; the last one may have fewer.
func vectorsOf(b []byte, d int) (l [][]int) {
	for v := range slices.Chunk(b, d) {
		w := make([]int, len(v))
		for i := range w {
			w[i] = int(int8(v[i]))
		}
		l = append(l, w)
	}
	return l
}

// areAlike is the definition of alike.
func areAlike(l [][]int) bool {
	for _, v := range l {
		if len(v) != len(l[0]) {
			return false
		}
	}
	return true
}

func FuzzLists(f *testing.F) {
	f.Add([]byte{}, []byte{}, 1, 0)
	f.Add([]byte{1, 5, 2, 4, 2, 5, 1, 5}, []byte{1, 0, 0, 1}, 2, 3)
	f.Add([]byte{255, 3, 128, 127, 0, 7}, []byte{1, 2, 3, 4}, 3, math.MinInt)
	f.Fuzz(func(t *testing.T, one, other []byte, d, n int) {
		if d < 1 || d > 8 || len(one) > 120 || len(other) > 120 {
			return // because the definitions take long
		}
		a, b := vectorsOf(one, d), vectorsOf(other, d)
		budget := make([]int, d)
		for i := range budget {
			budget[i] = int(int8(binary.BigEndian.AppendUint64(nil, uint64(n))[i]))
		}
		if !areAlike(slices.Concat(a, b)) {
			wantSums(t, a, b, nil, api.ErrVector)
		} else {
			wantSums(t, a, b, refLeast(refSums(a, b)), api.OK)
		}
		if !areAlike(a) {
			wantLeast(t, a, nil, api.ErrVector)
		} else {
			wantLeast(t, a, refLeast(a), api.OK)
		}
		if !areAlike(append(list(budget), b...)) {
			wantFits(t, b, budget, false, api.ErrVector)
		} else {
			wantFits(t, b, budget, refFits(b, budget), api.OK)
		}
	})
}
