package digest

import (
	"math/bits"
	"slices"

	"overflight/api"
)

// longest is the greatest number of elements of a list into which Climb leads.
const longest = 1 << 40

func leaf(d api.Digest) api.Digest { return Tagged("leaf", d[:]) }

func node(left, right api.Digest) api.Digest { return pair("node", left, right) }

func pair(tag string, a, b api.Digest) api.Digest { return Tagged(tag, slices.Concat(a[:], b[:])) }

// split returns the greatest power of 2 less than n, which is at least 2.
func split(n int) int { return 1 << (bits.Len(uint(n-1)) - 1) }

// siblings returns the path of the element with the index at.
func siblings(l []api.Digest, at int) []api.Digest {
	if len(l) == 1 {
		return nil
	}
	k := split(len(l))
	if at < k {
		return append(siblings(l[:k], at), Tree(l[k:]))
	}
	return append(siblings(l[k:], at-k), Tree(l[:k]))
}

// climb returns the digest to which path leads, and whether path has the right length, which shows at the leaf.
func climb(d api.Digest, at, n int, path []api.Digest) (root api.Digest, ok bool) {
	if n == 1 {
		return leaf(d), len(path) == 0
	}
	if len(path) == 0 {
		return api.Digest{}, false
	}
	k, last := split(n), len(path)-1
	if at < k {
		root, ok = climb(d, at, k, path[:last])
		return node(root, path[last]), ok
	}
	root, ok = climb(d, at-k, n-k, path[:last])
	return node(path[last], root), ok
}
