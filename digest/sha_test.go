package digest

import (
	"bytes"
	"crypto/sha256"
	"encoding/binary"
	"encoding/hex"
	"slices"
	"strings"
	"testing"

	"overflight/api"
)

// varied returns n bytes that differ from their neighbours.
func varied(n int) []byte {
	b := make([]byte, n)
	for i := range b {
		b[i] = byte(i*i + 7*i + 3)
	}
	return b
}

// TestSumKnown compares Sum with hashes that are published, so that it does not depend on the library.
func TestSumKnown(t *testing.T) {
	for _, x := range []struct{ text, want string }{
		{"", "e3b0c44298fc1c149afbf4c8996fb92427ae41e4649b934ca495991b7852b855"},
		{"a", "ca978112ca1bbdcafac231b39a23dc4da786eff8147c4e72b9807785afee48bb"},
		{"abc", "ba7816bf8f01cfea414140de5dae2223b00361a396177a9cb410ff61f20015ad"},
		{"abcdbcdecdefdefgefghfghighijhijkijkljklmklmnlmnomnopnopq", "248d6a61d20638b8e5c026930c3e6039a33ce45964ff2167f6ecedd419db06c1"},
		{"abcdefghbcdefghicdefghijdefghijkefghijklfghijklmghijklmnhijklmnoijklmnopjklmnopqklmnopqrlmnopqrsmnopqrstnopqrstu", "cf5b16a778af8380036ce59e7b0492370b249b11e8f07a51afac45037afee9d1"},
		{strings.Repeat("a", 1000000), "cdc76e5c9914fb9281a1c7e284d73e67f1809a48a497200e046d39ccc7112cd0"},
	} {
		d := Sum([]byte(x.text))
		if got := hex.EncodeToString(d[:]); got != x.want {
			t.Errorf("%.20q: %s", x.text, got)
		}
	}
}

func TestSumLengths(t *testing.T) {
	b := varied(1 << 16)
	lengths := []int{1000, 4095, 4096, 4097, 1<<13 - 9, 1<<13 - 8, 1<<16 - 1, 1 << 16}
	for n := range 400 {
		lengths = append(lengths, n)
	}
	for _, n := range lengths {
		if Sum(b[:n]) != sha256.Sum256(b[:n]) {
			t.Errorf("%d bytes", n)
		}
	}
	for _, c := range []byte{0, 0x80, 0xff} {
		for n := range 140 {
			same := bytes.Repeat([]byte{c}, n)
			if Sum(same) != sha256.Sum256(same) {
				t.Errorf("%d bytes %d", n, c)
			}
		}
	}
}

func TestSumNil(t *testing.T) {
	if Sum(nil) != Sum([]byte{}) || Tagged("a", nil) != Tagged("a", []byte{}) {
		t.Error("nil and an empty slice differ")
	}
}

// TestPadding looks at the padding of lengths that are too great for Sum in a test, too.
func TestPadding(t *testing.T) {
	for _, n := range []int{0, 1, 31, 54, 55, 56, 57, 63, 64, 119, 120, 1<<29 - 1, 1 << 29, 1<<31 - 1, 1<<40 + 5} {
		p := padding(n)
		zeros := len(p) - 9
		if zeros < 0 || zeros > 63 || (n+len(p))%64 != 0 || p[0] != 0x80 || !bytes.Equal(p[1:1+zeros], make([]byte, zeros)) || binary.BigEndian.Uint64(p[1+zeros:]) != uint64(n)*8 {
			t.Errorf("%d: %d", n, p)
		}
	}
}

func TestTagged(t *testing.T) {
	empty := sha256.Sum256(nil)
	if Tagged("", nil) != sha256.Sum256(empty[:]) {
		t.Error("the empty tag and no bytes")
	}
	b := varied(200)
	for _, tag := range []string{"", "a", "leaf", "\x00\xff", strings.Repeat("long", 100)} {
		first := sha256.Sum256([]byte(tag))
		for n := range b {
			if Tagged(tag, b[:n]) != sha256.Sum256(slices.Concat(first[:], b[:n])) {
				t.Errorf("%q, %d bytes", tag, n)
			}
		}
	}
	if Tagged("ab", []byte("c")) == Tagged("a", []byte("bc")) {
		t.Error("the tag is not apart from the bytes")
	}
}

// TestSumPure makes sure that neither arguments nor the memory behind them are modified.
func TestSumPure(t *testing.T) {
	for n := range 130 {
		b := varied(300)
		d := Sum(b[:n])
		x := Tagged("tag", b[:n])
		if !bytes.Equal(b, varied(300)) || Sum(b[:n:n]) != d || Tagged("tag", b[:n:n]) != x {
			t.Errorf("%d bytes", n)
		}
	}
}

func TestChain(t *testing.T) {
	var zero api.Digest
	first := sha256.Sum256([]byte("chain"))
	if Chain(zero, zero) != sha256.Sum256(slices.Concat(first[:], make([]byte, 64))) {
		t.Error("zero digests")
	}
	end := zero
	for _, d := range distinct(20) {
		next := Chain(end, d)
		if next != sha256.Sum256(slices.Concat(first[:], end[:], d[:])) {
			t.Errorf("%x", d)
		}
		if next == Chain(d, end) {
			t.Errorf("%x: the order does not matter", d)
		}
		end = next
	}
}

func FuzzSum(f *testing.F) {
	f.Add("", []byte(nil))
	f.Add("leaf", varied(119))
	f.Fuzz(func(t *testing.T, tag string, b []byte) {
		first := sha256.Sum256([]byte(tag))
		if Sum(b) != sha256.Sum256(b) || Tagged(tag, b) != sha256.Sum256(slices.Concat(first[:], b)) {
			t.Errorf("%q %d", tag, b)
		}
	})
}
