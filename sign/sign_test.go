package sign

import (
	"bytes"
	"crypto/sha256"
	"encoding/binary"
	"math"
	"math/big"
	"slices"
	"strings"
	"testing"

	"overflight/api"
	"overflight/group"
)

var privates = []int{1, 2, 3, 5, 12345, 1 << 31, 1 << 60, api.Q / 2, api.Q/2 + 1, api.Q - 2, api.Q - 1}

// notPrivates are no private keys. Modulo Q, and as their 64 bits modulo Q, some of them would be.
var notPrivates = []int{0, -1, -2, 1 - api.Q, -api.Q, math.MinInt, math.MinInt + 1, api.Q, api.Q + 1, 2 * api.Q, api.P, math.MaxInt - 1, math.MaxInt}

// notElements are numbers beside the group; some of them are elements modulo P.
var notElements = []int{0, -1, -4, 2, 8, api.P - 1, api.P - 4, api.P, api.P + 1, api.P + 4, 4 - api.P, math.MinInt, math.MaxInt}

var messages = [][]byte{
	nil, {}, {0}, {0, 0}, {255}, []byte("a"), []byte("a longer message"), []byte("nonce"), []byte("sign"),
	bytes.Repeat([]byte{7}, 47), bytes.Repeat([]byte{7}, 48), bytes.Repeat([]byte{200}, 1000),
}

func wide(n int) *big.Int { return big.NewInt(int64(n)) }

// refBytes is the definition of the bytes of a number, by the library.
func refBytes(n int) []byte { return binary.BigEndian.AppendUint64(nil, uint64(n)) }

// refScalar is the definition of group.Scalar, by the library.
func refScalar(tag string, parts ...[]byte) *big.Int {
	t := sha256.Sum256([]byte(tag))
	d := sha256.Sum256(slices.Concat(t[:], slices.Concat(parts...)))
	k := new(big.Int).Mod(new(big.Int).SetBytes(d[:]), wide(api.Q-1))
	return k.Add(k, wide(1))
}

func refPower(a int, k *big.Int) int {
	return int(new(big.Int).Exp(wide(a), k, wide(api.P)).Int64())
}

func refNonce(private int, m []byte) *big.Int { return refScalar("nonce", refBytes(private), m) }

func refChallenge(public, r int, m []byte) *big.Int {
	return refScalar("sign", refBytes(r), refBytes(public), m)
}

// answer returns the sum of k and the product of the challenge and the private key, modulo Q, by the library.
func answer(private, public, r int, k *big.Int, m []byte) int {
	h := refChallenge(public, r, m)
	h.Add(h.Mul(h, wide(private)), k)
	return int(h.Mod(h, wide(api.Q)).Int64())
}

// refSign is the definition of Sign, by the library.
func refSign(private int, m []byte) api.Signature {
	public := refPower(api.G, wide(private))
	k := refNonce(private, m)
	r := refPower(api.G, k)
	return api.Signature{R: r, S: answer(private, public, r, k, m)}
}

// publicOf returns a public key, and fails the test if there is none.
func publicOf(t *testing.T, private int) int {
	t.Helper()
	public, e := Public(private)
	if e != api.OK {
		t.Fatalf("Public(%d): got %d", private, e)
	}
	return public
}

// signed returns a signature, and fails the test if there is none.
func signed(t *testing.T, private int, m []byte) api.Signature {
	t.Helper()
	s, e := Sign(private, m)
	if e != api.OK {
		t.Fatalf("Sign(%d, %v): got %d", private, m, e)
	}
	return s
}

func TestPublic(t *testing.T) {
	for _, x := range []struct{ private, public int }{{1, api.G}, {2, 16}, {3, 64}, {30, 1 << 60}, {api.Q - 1, (api.P + 1) / 4}} {
		if p := publicOf(t, x.private); p != x.public {
			t.Errorf("Public(%d): got %d, want %d", x.private, p, x.public)
		}
	}
	for _, private := range privates {
		if p := publicOf(t, private); p != refPower(api.G, wide(private)) {
			t.Errorf("Public(%d): got %d", private, p)
		}
	}
	for _, private := range notPrivates {
		if p, e := Public(private); p != 0 || e != api.ErrKey {
			t.Errorf("Public(%d): got %d, %d", private, p, e)
		}
	}
}

func TestPrivate(t *testing.T) {
	var counted, full api.Digest
	for i := range counted {
		counted[i], full[i] = byte(i+1), 255
	}
	seen := map[int]bool{}
	for _, seed := range []api.Digest{{}, {1}, {31: 1}, counted, full} {
		for _, label := range []string{"", "a", "campus", "\x00", "\xff\xfe", strings.Repeat("long", 100)} {
			for _, n := range []int{0, 1, 2, 255, 256, 258, 1 << 32, -1, -2, math.MinInt, math.MaxInt} {
				k := Private(seed, label, n)
				want := refScalar("private", seed[:], refBytes(n), []byte(label))
				if int64(k) != want.Int64() {
					t.Errorf("%v, %q, %d: got %d, want %d", seed, label, n, k, want)
				}
				if seen[k] {
					t.Errorf("%v, %q, %d: another private key is the same", seed, label, n)
				}
				seen[k] = true
				publicOf(t, k)
			}
		}
	}
}

func TestSign(t *testing.T) {
	for _, private := range privates {
		for _, m := range messages {
			kept := bytes.Clone(m)
			s := signed(t, private, m)
			if want := refSign(private, m); s != want {
				t.Errorf("Sign(%d, %v): got %d, want %d", private, m, s, want)
			}
			if again := signed(t, private, m); again != s {
				t.Errorf("Sign(%d, %v): got %d, and then %d", private, m, s, again)
			}
			if !bytes.Equal(m, kept) {
				t.Errorf("Sign(%d, %v): the message was %v", private, m, kept)
			}
		}
		if signed(t, private, nil) != signed(t, private, []byte{}) {
			t.Errorf("%d: nil and an empty message differ", private)
		}
	}
	for _, private := range notPrivates {
		for _, m := range messages {
			if s, e := Sign(private, m); s != (api.Signature{}) || e != api.ErrKey {
				t.Errorf("Sign(%d, %v): got %d, %d", private, m, s, e)
			}
		}
	}
}

// A message may lie in a longer array, behind which nothing is written.
func TestMessagesKeepTheirMemory(t *testing.T) {
	all := []byte("a message, and what follows it")
	kept := bytes.Clone(all)
	m := all[:9]
	s := signed(t, 77, m)
	if !Verify(publicOf(t, 77), m, s) || !bytes.Equal(all, kept) {
		t.Errorf("got %q", all)
	}
}

func TestVerifyAcceptsWhatSignReturns(t *testing.T) {
	for _, private := range privates {
		public := publicOf(t, private)
		for _, m := range messages {
			if s := signed(t, private, m); !Verify(public, m, s) {
				t.Errorf("%d, %v: %d is refused", private, m, s)
			}
		}
		if s := signed(t, private, nil); !Verify(public, []byte{}, s) {
			t.Errorf("%d: nil and an empty message differ", private)
		}
	}
}

func TestVerifyRefuses(t *testing.T) {
	m := []byte("message")
	public := publicOf(t, 5)
	s := signed(t, 5, m)
	for _, a := range notElements {
		if Verify(a, m, s) {
			t.Errorf("the public key %d is accepted", a)
		}
		for _, n := range []int{s.S, 0, 1} {
			if Verify(public, m, api.Signature{R: a, S: n}) || Verify(a, m, api.Signature{R: a, S: n}) {
				t.Errorf("R %d is accepted", a)
			}
		}
	}
	for _, n := range []int{s.S - api.Q, s.S + api.Q, s.S + 1, s.S - 1, -s.S, api.Q - s.S, 0, -1, api.Q, api.Q + 1, math.MinInt, math.MaxInt} {
		if Verify(public, m, api.Signature{R: s.R, S: n}) {
			t.Errorf("S %d is accepted", n)
		}
	}
	for _, other := range []int{1, 4, 6, api.Q - 5} {
		if Verify(publicOf(t, other), m, s) {
			t.Errorf("the public key of %d accepts a signature of 5", other)
		}
	}
	for _, other := range []string{"", "messag", "Message", "message\x00", "\x00message"} {
		if Verify(public, []byte(other), s) {
			t.Errorf("the signature of %q is one of %q as well", m, other)
		}
	}
	if Verify(0, nil, api.Signature{}) || Verify(api.G, nil, api.Signature{R: api.G, S: api.Q}) || Verify(public, m, api.Signature{}) {
		t.Error("an example is accepted")
	}
}

// Scalars and elements are checked even where the equation holds modulo Q or modulo P.
func TestVerifyRefusesOtherNumbersOfTheSameRemainder(t *testing.T) {
	m := []byte("message")
	for _, k := range []int{1, 2, 9, 30} {
		r := refPower(api.G, wide(k))
		if !Verify(1, m, api.Signature{R: r, S: k}) {
			t.Errorf("R %d, S %d is refused", r, k)
		}
		for _, s := range []api.Signature{{R: r, S: k + api.Q}, {R: r, S: k - api.Q}, {R: r - api.P, S: k}, {R: r + api.P, S: k}, {R: api.P - r, S: k}} {
			if Verify(1, m, s) {
				t.Errorf("R %d, S %d is accepted", s.R, s.S)
			}
		}
		if s := (api.Signature{R: r, S: k}); Verify(1-api.P, m, s) || Verify(1+api.P, m, s) {
			t.Errorf("another number than 1 is accepted as the public key")
		}
	}
}

// The public key P - 1 is no element, but its power with an even exponent is 1.
func TestVerifyRefusesNonSquaresForWhichTheEquationHolds(t *testing.T) {
	even := 0
	for i := range 64 {
		m := []byte{byte(i)}
		if refChallenge(api.P-1, 16, m).Bit(0) == 0 {
			even++
		}
		if Verify(api.P-1, m, api.Signature{R: 16, S: 2}) {
			t.Errorf("%v: the public key P - 1 is accepted", m)
		}
	}
	if even == 0 {
		t.Error("no challenge is even")
	}
}

// The public key P - 1 and the R P - 16 are no elements, but the product of the R and an odd power is one.
func TestVerifyRefusesTwoNonSquaresWithASquareAsProduct(t *testing.T) {
	odd := 0
	for i := range 64 {
		m := []byte{byte(i)}
		if refChallenge(api.P-1, api.P-16, m).Bit(0) == 1 {
			odd++
		}
		if Verify(api.P-1, m, api.Signature{R: api.P - 16, S: 2}) {
			t.Errorf("%v: the public key P - 1 is accepted", m)
		}
	}
	if odd == 0 {
		t.Error("no challenge is odd")
	}
}

func TestBoundsOfS(t *testing.T) {
	if !Verify(1, nil, api.Signature{R: 1, S: 0}) {
		t.Error("the S 0 is refused")
	}
	last := refPower(api.G, wide(api.Q-1))
	if !Verify(1, nil, api.Signature{R: last, S: api.Q - 1}) {
		t.Error("the S Q - 1 is refused")
	}
	if Verify(1, nil, api.Signature{R: 1, S: api.Q}) || Verify(1, nil, api.Signature{R: last, S: -1}) {
		t.Error("an S that is no scalar is accepted")
	}
}

// For each element R there is one S, also for an R that is not that of the nonce.
func TestOneSForEachR(t *testing.T) {
	for _, private := range privates {
		public := publicOf(t, private)
		for i, m := range messages {
			k := wide(api.Q/3 + 1000003*i)
			r := refPower(api.G, k)
			only := answer(private, public, r, k, m)
			if !Verify(public, m, api.Signature{R: r, S: only}) {
				t.Errorf("%d, %v: S %d for R %d is refused", private, m, only, r)
			}
			for _, by := range []int{1, 2, api.Q / 2, api.Q - 1} {
				if s, _ := group.Sum(only, by); Verify(public, m, api.Signature{R: r, S: s}) {
					t.Errorf("%d, %v: for R %d, both %d and %d are accepted", private, m, r, only, s)
				}
			}
		}
	}
}

// Whoever knows the private key finds the nonce: S without the product of the challenge and the private key.
func TestThePrivateKeyLeadsToTheNonce(t *testing.T) {
	for _, private := range privates {
		public := publicOf(t, private)
		for _, m := range messages {
			s := signed(t, private, m)
			k := refChallenge(public, s.R, m)
			k.Sub(wide(s.S), k.Mul(k, wide(private)))
			k.Mod(k, wide(api.Q))
			if k.Cmp(refNonce(private, m)) != 0 {
				t.Errorf("%d, %v: got %d", private, m, k)
			}
		}
	}
}

func TestDifferencesOfTwoSignatures(t *testing.T) {
	q := wide(api.Q)
	difference := func(a, b *big.Int) *big.Int { return new(big.Int).Sub(a, b) }
	for _, private := range privates {
		public := publicOf(t, private)
		for i, m := range messages[1:] {
			a, b := signed(t, private, messages[i]), signed(t, private, m)
			challenges := difference(refChallenge(public, a.R, messages[i]), refChallenge(public, b.R, m))
			want := difference(refNonce(private, messages[i]), refNonce(private, m))
			want.Add(want, challenges.Mul(challenges, wide(private)))
			got := difference(wide(a.S), wide(b.S))
			if want.Mod(want, q).Cmp(got.Mod(got, q)) != 0 {
				t.Errorf("%d, %v, %v: got %d, want %d", private, messages[i], m, got, want)
			}
		}
	}
}

func TestBytesOfNumbers(t *testing.T) {
	for _, x := range []struct {
		n int
		b []byte
	}{
		{0, []byte{0, 0, 0, 0, 0, 0, 0, 0}},
		{258, []byte{0, 0, 0, 0, 0, 0, 1, 2}},
		{-1, []byte{255, 255, 255, 255, 255, 255, 255, 255}},
		{-256, []byte{255, 255, 255, 255, 255, 255, 255, 0}},
		{0x0102030405060708, []byte{1, 2, 3, 4, 5, 6, 7, 8}},
		{math.MinInt, []byte{128, 0, 0, 0, 0, 0, 0, 0}},
		{math.MaxInt, []byte{127, 255, 255, 255, 255, 255, 255, 255}},
	} {
		if got := number(x.n); !bytes.Equal(got, x.b) {
			t.Errorf("%d: got %v, want %v", x.n, got, x.b)
		}
	}
}

// refVerify is the definition of Verify, by the library.
func refVerify(public int, m []byte, s api.Signature) bool {
	element := func(a int) bool { return a >= 1 && a < api.P && big.Jacobi(wide(a), wide(api.P)) == 1 }
	if !element(public) || !element(s.R) || s.S < 0 || s.S >= api.Q {
		return false
	}
	right := new(big.Int).Mul(wide(s.R), wide(refPower(public, refChallenge(public, s.R, m))))
	return wide(refPower(api.G, wide(s.S))).Cmp(right.Mod(right, wide(api.P))) == 0
}

func FuzzVerify(f *testing.F) {
	for _, a := range notElements {
		f.Add(a, 4, 1, 1, []byte{})
		f.Add(4, a, 1, 1, []byte{})
		f.Add(4, 4, a, 1, []byte{})
		f.Add(4, 4, 1, a, []byte("a"))
	}
	f.Fuzz(func(t *testing.T, public, r, s, private int, m []byte) {
		x := api.Signature{R: r, S: s}
		if got := Verify(public, m, x); got != refVerify(public, m, x) {
			t.Errorf("Verify(%d, %v, %d): got %v", public, m, x, got)
		}
		x, e := Sign(private, m)
		if private < 1 || private >= api.Q {
			if x != (api.Signature{}) || e != api.ErrKey {
				t.Errorf("Sign(%d, %v): got %d, %d", private, m, x, e)
			}
			return
		}
		if e != api.OK || x != refSign(private, m) || !Verify(publicOf(t, private), m, x) {
			t.Errorf("Sign(%d, %v): got %d, %d", private, m, x, e)
		}
	})
}
