package digest

import (
	"crypto/sha256"
	"math"
	"slices"
	"testing"

	"overflight/api"
)

// distinct returns n different digests.
func distinct(n int) (l []api.Digest) {
	for i := range n {
		l = append(l, sha256.Sum256([]byte{byte(i), byte(i >> 8), 1}))
	}
	return l
}

// tagged is the definition of Tagged, by the library.
func tagged(tag string, parts ...api.Digest) api.Digest {
	b := sha256.Sum256([]byte(tag))
	all := b[:]
	for _, d := range parts {
		all = append(all, d[:]...)
	}
	return sha256.Sum256(all)
}

func wantLeaf(d api.Digest) api.Digest { return tagged("leaf", d) }

func wantNode(a, b api.Digest) api.Digest { return tagged("node", a, b) }

// firstPart returns the number of elements of the first part of a list of n, by the definition.
func firstPart(n int) int {
	k := 1
	for 2*k < n {
		k *= 2
	}
	return k
}

func wantTree(l []api.Digest) api.Digest {
	switch len(l) {
	case 0:
		return tagged("empty")
	case 1:
		return wantLeaf(l[0])
	}
	k := firstPart(len(l))
	return wantNode(wantTree(l[:k]), wantTree(l[k:]))
}

func wantPath(l []api.Digest, at int) []api.Digest {
	if len(l) == 1 {
		return nil
	}
	k := firstPart(len(l))
	if at < k {
		return append(wantPath(l[:k], at), wantTree(l[k:]))
	}
	return append(wantPath(l[k:], at-k), wantTree(l[:k]))
}

// TestTreeShapes has the shapes of short lists written out.
func TestTreeShapes(t *testing.T) {
	l := distinct(7)
	var x [7]api.Digest
	for i, d := range l {
		x[i] = wantLeaf(d)
	}
	two := wantNode(x[0], x[1])
	four := wantNode(two, wantNode(x[2], x[3]))
	for n, want := range []api.Digest{
		tagged("empty"),
		x[0],
		two,
		wantNode(two, x[2]),
		four,
		wantNode(four, x[4]),
		wantNode(four, wantNode(x[4], x[5])),
		wantNode(four, wantNode(wantNode(x[4], x[5]), x[6])),
	} {
		if Tree(l[:n]) != want {
			t.Errorf("%d elements", n)
		}
	}
	if Tree(nil) != Tree([]api.Digest{}) {
		t.Error("nil and an empty slice differ")
	}
	if Tree(l[:1]) == l[0] || Tree(make([]api.Digest, 1)) == Tree(make([]api.Digest, 2)) {
		t.Error("lists of different lengths")
	}
}

func TestTreeLong(t *testing.T) {
	l := distinct(1025)
	for n := range 140 {
		if Tree(l[:n]) != wantTree(l[:n]) {
			t.Errorf("%d elements", n)
		}
	}
	for _, n := range []int{255, 256, 257, 1000, 1023, 1024, 1025} {
		if Tree(l[:n]) != wantTree(l[:n]) {
			t.Errorf("%d elements", n)
		}
	}
}

func TestPath(t *testing.T) {
	l := distinct(70)
	for n := 1; n <= len(l); n++ {
		for at := range n {
			p, e := Path(l[:n], at)
			if e != api.OK || !slices.Equal(p, wantPath(l[:n], at)) {
				t.Fatalf("%d of %d: %d", at, n, e)
			}
		}
	}
}

func TestPathShapes(t *testing.T) {
	l := distinct(6)
	var x [6]api.Digest
	for i, d := range l {
		x[i] = wantLeaf(d)
	}
	right := wantNode(x[4], x[5])
	left := wantNode(wantNode(x[0], x[1]), wantNode(x[2], x[3]))
	for at, want := range [][]api.Digest{
		{x[1], wantNode(x[2], x[3]), right},
		{x[0], wantNode(x[2], x[3]), right},
		{x[3], wantNode(x[0], x[1]), right},
		{x[2], wantNode(x[0], x[1]), right},
		{x[5], left},
		{x[4], left},
	} {
		if p, e := Path(l, at); e != api.OK || !slices.Equal(p, want) {
			t.Errorf("%d: %d", at, e)
		}
	}
	if p, e := Path(l[:1], 0); e != api.OK || len(p) > 0 {
		t.Errorf("one element: %d %d", len(p), e)
	}
}

func TestPathRefuses(t *testing.T) {
	for _, n := range []int{0, 1, 2, 5, 8} {
		for _, at := range []int{-1, -n, n, n + 1, math.MinInt, math.MaxInt} {
			if at == 0 && n > 0 {
				continue
			}
			if p, e := Path(distinct(n), at); e != api.ErrArg || len(p) > 0 {
				t.Errorf("%d of %d: %d", at, n, e)
			}
		}
	}
}

func TestClimbReachesTree(t *testing.T) {
	l := distinct(300)
	lengths := []int{127, 128, 129, 255, 256, 257, 300}
	for n := 1; n <= 70; n++ {
		lengths = append(lengths, n)
	}
	for _, n := range lengths {
		tree := Tree(l[:n])
		for at := range n {
			p, _ := Path(l[:n], at)
			if root, e := Climb(l[at], at, n, p); e != api.OK || root != tree {
				t.Fatalf("%d of %d: %d", at, n, e)
			}
		}
	}
}

// TestClimbOther makes sure that another element, place, length or path of the right length leads elsewhere.
func TestClimbOther(t *testing.T) {
	l := distinct(6)
	tree := Tree(l)
	for at := range l {
		p, _ := Path(l, at)
		for k := range l {
			if root, e := Climb(l[k], at, len(l), p); (root == tree) != (k == at) || e != api.OK {
				t.Errorf("element %d instead of %d: %d", k, at, e)
			}
			if root, _ := Climb(l[at], k, len(l), p); (root == tree) != (k == at) {
				t.Errorf("place %d instead of %d", k, at)
			}
		}
		for i := range p {
			q := slices.Clone(p)
			q[i][31] ^= 1
			if root, e := Climb(l[at], at, len(l), q); root == tree || e != api.OK {
				t.Errorf("path of %d: %d", at, e)
			}
		}
	}
	first, second, d := l[0], l[1], l[2]
	root, e := Climb(d, 1, 3, []api.Digest{first, second})
	if want := wantNode(wantNode(first, wantLeaf(d)), second); e != api.OK || root != want {
		t.Errorf("any digests: %d", e)
	}
}

// steps returns how many elements the path of an element has, by the definition.
func steps(at, n int) (many int) {
	for ; n > 1; many++ {
		if k := firstPart(n); at < k {
			n = k
		} else {
			at, n = at-k, n-k
		}
	}
	return many
}

func TestClimbLengths(t *testing.T) {
	d := distinct(1)[0]
	check := func(at, n int) {
		want := steps(at, n)
		for many := range 45 {
			root, e := Climb(d, at, n, distinct(many))
			if (e == api.OK) != (many == want) || e != api.OK && (e != api.ErrArg || root != api.Digest{}) {
				t.Errorf("%d of %d, %d: %d", at, n, many, e)
			}
		}
	}
	for n := 1; n <= 34; n++ {
		for at := range n {
			check(at, n)
		}
	}
	for _, n := range []int{1<<31 - 1, 1 << 32, 1<<33 + 1, 1<<39 + 1, 1<<40 - 1, 1 << 40} {
		for _, at := range []int{0, 1, n / 2, n/2 + 1, n - 2, n - 1} {
			check(at, n)
		}
	}
	if steps(0, 1<<40) != 40 || steps(1<<40-1, 1<<40) != 40 || steps(1<<33, 1<<33+1) != 1 {
		t.Error("the test itself counts other lengths")
	}
}

// TestClimbLongest climbs in the longest list. As its length is a power of 2, the bits of the place are the sides.
func TestClimbLongest(t *testing.T) {
	path := distinct(41)
	d, path := path[40], path[:40]
	for _, at := range []int{0, 1, 1 << 39, 0x5555555555, 0xcafe123456, 1<<40 - 1} {
		want := wantLeaf(d)
		for i, x := range path {
			if at>>i&1 == 1 {
				want = wantNode(x, want)
			} else {
				want = wantNode(want, x)
			}
		}
		if root, e := Climb(d, at, 1<<40, path); e != api.OK || root != want {
			t.Errorf("%d: %d", at, e)
		}
	}
}

func TestClimbRefuses(t *testing.T) {
	d := distinct(1)[0]
	if root, e := Climb(d, 0, 1, nil); e != api.OK || root != Tree([]api.Digest{d}) {
		t.Errorf("one element: %d", e)
	}
	for _, x := range []struct{ at, n, path int }{
		{0, 0, 0}, {-1, 0, 0}, {0, -1, 0}, {-1, -1, 0}, {-2, -1, 0}, {0, math.MinInt, 0}, {math.MinInt, math.MinInt, 0},
		{-1, 1, 0}, {1, 1, 0}, {1, 1, 1}, {math.MinInt, 1, 0}, {math.MaxInt, 1, 0},
		{-1, 2, 1}, {2, 2, 1}, {2, 2, 2}, {8, 8, 3}, {-1, 8, 3}, {5, 5, 1},
		{0, 2, 0}, {0, 2, 2}, {0, 1, 1}, {4, 5, 0}, {4, 5, 2}, {4, 5, 3}, {0, 5, 1}, {0, 5, 2}, {0, 5, 4},
		{0, 1<<40 + 1, 41}, {1 << 40, 1<<40 + 1, 1}, {1 << 40, 1 << 40, 40}, {0, 1 << 41, 41}, {0, 1 << 62, 62},
		{0, math.MaxInt, 63}, {math.MaxInt - 1, math.MaxInt, 62}, {1 << 62, 1<<62 + 1, 1}, {0, 1 << 40, 1 << 16},
	} {
		path := make([]api.Digest, x.path)
		if root, e := Climb(d, x.at, x.n, path); e != api.ErrArg || root != (api.Digest{}) {
			t.Errorf("%d of %d, %d: %d", x.at, x.n, x.path, e)
		}
	}
}

// TestConsequences is P2.4, with the functions of the package alone.
func TestConsequences(t *testing.T) {
	l := distinct(257)
	for n := 2; n <= len(l); n++ {
		k := firstPart(n)
		a, b := Tree(l[:k]), Tree(l[k:n])
		if Tree(l[:n]) != Tagged("node", slices.Concat(a[:], b[:])) {
			t.Errorf("%d elements: no node of the two parts", n)
		}
	}
	for n := 1; n < len(l); n *= 2 {
		old, added := Tree(l[:n]), Tree(l[n:n+1])
		if Tree(l[:n+1]) != Tagged("node", slices.Concat(old[:], added[:])) {
			t.Errorf("an element after %d", n)
		}
		p, _ := Path(l[:n+1], n)
		if !slices.Equal(p, []api.Digest{old}) {
			t.Errorf("the path after %d", n)
		}
	}
}

// TestTreePure makes sure that no call modifies its arguments or what lies behind them, and that results share no memory.
func TestTreePure(t *testing.T) {
	l := distinct(20)
	for n := 1; n <= 12; n++ {
		for at := range n {
			p, _ := Path(l[:n], at)
			q, _ := Path(l[:n], at)
			room := append(slices.Clone(p), distinct(5)...)
			root, _ := Climb(l[at], at, n, room[:len(p)])
			if root != Tree(l[:n]) || !slices.Equal(room, append(slices.Clone(p), distinct(5)...)) {
				t.Errorf("%d of %d: the path was modified", at, n)
			}
			clear(p)
			if !slices.Equal(l, distinct(20)) || !slices.Equal(q, wantPath(l[:n], at)) {
				t.Errorf("%d of %d: memory is shared", at, n)
			}
		}
	}
}
