package group

import (
	"math"
	"math/big"
	"slices"
	"testing"

	"overflight/api"
	"overflight/digest"
)

// outside are numbers that are neither scalars nor elements. Modulo P, and as their 64 bits modulo P, some of them would be elements.
var outside = []int{
	-1, -2, -4, 1 - api.P, 4 - api.P, -api.P, -api.Q, math.MinInt, math.MinInt + 1,
	api.P, api.P + 1, api.P + 4, api.P + 9, 2*api.P - 2, 2 * api.P, math.MaxInt - 1, math.MaxInt,
}

// elements are squares, some of them small and some as large as possible.
var elements = []int{
	1, 4, 9, 16, 25, 1 << 20, 1 << 60, (api.P + 1) / 4, api.P - 2, api.P - 8, api.P - 32,
	square(3037000499), square(1<<61 + 12345), square(api.Q), square(api.Q - 1), square(api.P / 3),
}

var others = []int{2, 8, 32, api.P - 1, api.P - 4, api.P - 9, api.P - 16, api.P - 1<<20}

var scalarsToTry = []int{0, 1, 2, 3, 5, 255, 256, 1 << 31, 1 << 60, 1<<61 - 1<<15, api.Q / 2, api.Q/2 + 1, api.Q - 3, api.Q - 2, api.Q - 1}

var notScalars = slices.Concat(outside, []int{api.Q, api.Q + 1, 2 * api.Q, 1 << 61})

// square returns the square of a number modulo P, by the library.
func square(a int) int { return bigPower(a, 2, api.P) }

func bigPower(a, k, m int) int {
	return int(new(big.Int).Exp(big.NewInt(int64(a)), big.NewInt(int64(k)), big.NewInt(int64(m))).Int64())
}

func bigProduct(a, b, m int) int {
	c := new(big.Int).Mul(big.NewInt(int64(a)), big.NewInt(int64(b)))
	return int(c.Mod(c, big.NewInt(int64(m))).Int64())
}

func bigSum(a, b, m int) int {
	c := new(big.Int).Add(big.NewInt(int64(a)), big.NewInt(int64(b)))
	return int(c.Mod(c, big.NewInt(int64(m))).Int64())
}

// isSquare reports whether a number from 1 to P - 1 is a square, by the library.
func isSquare(a int) bool { return big.Jacobi(big.NewInt(int64(a)), big.NewInt(api.P)) == 1 }

// random returns numbers from 0 to m - 1 that are the same in each run.
func random(m int) func() int {
	x := uint64(88172645463325252)
	return func() int {
		x ^= x << 13
		x ^= x >> 7
		x ^= x << 17
		return int(x % uint64(m))
	}
}

// want fails the test unless a call without an error returned the number that is expected.
func want(t *testing.T, c int, e api.Errno, wanted int, call ...any) {
	t.Helper()
	if c != wanted || e != api.OK {
		t.Errorf("%v: got %d, %d, want %d", call, c, e, wanted)
	}
}

// wantError fails the test unless a call returned an error and nothing else.
func wantError(t *testing.T, c int, e, wanted api.Errno, call ...any) {
	t.Helper()
	if c != 0 || e != wanted {
		t.Errorf("%v: got %d, %d, want the error %d", call, c, e, wanted)
	}
}

func TestThePrimes(t *testing.T) {
	if !big.NewInt(api.P).ProbablyPrime(20) || !big.NewInt(api.Q).ProbablyPrime(20) || api.P != 2*api.Q+1 {
		t.Error("the tests of this package take P = 2Q + 1 and Q to be primes")
	}
}

func TestCheck(t *testing.T) {
	for _, a := range elements {
		if e := Check(a); e != api.OK {
			t.Errorf("%d: got %d", a, e)
		}
	}
	for _, a := range slices.Concat([]int{0}, others, outside) {
		if e := Check(a); e != api.ErrGroup {
			t.Errorf("%d: got %d", a, e)
		}
	}
}

func TestCheckFindsTheSquares(t *testing.T) {
	next := random(api.P - 1)
	for i := range 2000 {
		a := i + 1
		if i >= 500 {
			a = next() + 1
		}
		if got := Check(a) == api.OK; got != isSquare(a) {
			t.Errorf("%d: got %v", a, got)
		}
		if (Check(a) == api.OK) == (Check(api.P-a) == api.OK) {
			t.Errorf("%d: both of the numbers that add up to P are elements, or none of them is", a)
		}
	}
}

func TestMul(t *testing.T) {
	c, e := Mul(4, 4)
	want(t, c, e, 16, "Mul(4, 4)")
	for _, a := range elements {
		for _, b := range elements {
			c, e := Mul(a, b)
			want(t, c, e, bigProduct(a, b, api.P), "Mul", a, b)
			if Check(c) != api.OK {
				t.Errorf("Mul(%d, %d) is no element", a, b)
			}
		}
		c, e := Mul(1, a)
		want(t, c, e, a, "Mul", 1, a)
	}
	for _, a := range slices.Concat([]int{0}, others, outside) {
		c, e := Mul(a, 4)
		wantError(t, c, e, api.ErrGroup, "Mul", a, 4)
		c, e = Mul(4, a)
		wantError(t, c, e, api.ErrGroup, "Mul", 4, a)
		c, e = Mul(a, a)
		wantError(t, c, e, api.ErrGroup, "Mul", a, a)
	}
}

func TestInv(t *testing.T) {
	for _, a := range elements {
		b, e := Inv(a)
		if e != api.OK || Check(b) != api.OK {
			t.Errorf("Inv(%d): got %d, %d", a, b, e)
		}
		c, e := Mul(a, b)
		want(t, c, e, 1, "a product with the inverse", a, b)
		c, e = Inv(b)
		want(t, c, e, a, "Inv of Inv", a)
	}
	for _, a := range slices.Concat([]int{0}, others, outside) {
		c, e := Inv(a)
		wantError(t, c, e, api.ErrGroup, "Inv", a)
	}
}

func TestExp(t *testing.T) {
	for _, a := range elements {
		for _, k := range scalarsToTry {
			c, e := Exp(a, k)
			want(t, c, e, bigPower(a, k, api.P), "Exp", a, k)
			if Check(c) != api.OK {
				t.Errorf("Exp(%d, %d) is no element", a, k)
			}
		}
		for _, k := range notScalars {
			c, e := Exp(a, k)
			wantError(t, c, e, api.ErrArg, "Exp", a, k)
		}
	}
	for _, a := range slices.Concat([]int{0}, others, outside) {
		for _, k := range []int{0, 1, api.Q - 1, -1, api.Q, math.MinInt} {
			c, e := Exp(a, k)
			wantError(t, c, e, api.ErrGroup, "Exp", a, k)
		}
	}
}

func TestBase(t *testing.T) {
	for _, x := range []struct{ k, c int }{{0, 1}, {1, 4}, {3, 64}, {30, 1 << 60}, {api.Q - 1, (api.P + 1) / 4}} {
		c, e := Base(x.k)
		want(t, c, e, x.c, "Base", x.k)
	}
	for _, k := range scalarsToTry {
		c, e := Base(k)
		want(t, c, e, bigPower(4, k, api.P), "Base", k)
		if Check(c) != api.OK {
			t.Errorf("Base(%d) is no element", k)
		}
	}
	for _, k := range notScalars {
		c, e := Base(k)
		wantError(t, c, e, api.ErrArg, "Base", k)
	}
}

func TestSumAndProduct(t *testing.T) {
	for _, x := range []struct{ a, b, sum, product int }{
		{0, 0, 0, 0}, {api.Q - 1, 2, 1, api.Q - 2}, {api.Q - 1, api.Q - 1, api.Q - 2, 1}, {api.Q - 1, 1, 0, api.Q - 1}, {api.Q - 2, 1, api.Q - 1, api.Q - 2}, {5, 7, 12, 35},
	} {
		c, e := Sum(x.a, x.b)
		want(t, c, e, x.sum, "Sum", x.a, x.b)
		c, e = Product(x.a, x.b)
		want(t, c, e, x.product, "Product", x.a, x.b)
	}
	for _, a := range scalarsToTry {
		for _, b := range scalarsToTry {
			c, e := Sum(a, b)
			want(t, c, e, bigSum(a, b, api.Q), "Sum", a, b)
			c, e = Product(a, b)
			want(t, c, e, bigProduct(a, b, api.Q), "Product", a, b)
		}
	}
	for _, f := range []func(int, int) (int, api.Errno){Sum, Product} {
		for _, a := range notScalars {
			for _, b := range []int{0, 1, a, api.Q - 1, -a} {
				c, e := f(a, b)
				wantError(t, c, e, api.ErrArg, a, b)
				c, e = f(b, a)
				wantError(t, c, e, api.ErrArg, b, a)
			}
		}
	}
}

// bigScalar is the definition of Scalar, by the library.
func bigScalar(tag string, b []byte) int {
	d := digest.Tagged(tag, b)
	n := new(big.Int).SetBytes(d[:])
	return int(n.Mod(n, big.NewInt(api.Q-1)).Int64()) + 1
}

func TestScalar(t *testing.T) {
	for _, tag := range []string{"", "a", "challenge", "\xff\x00", string(make([]byte, 100))} {
		for n := range 100 {
			b := make([]byte, n)
			for i := range b {
				b[i] = byte(7*i + n)
			}
			kept := slices.Clone(b)
			k := Scalar(tag, b)
			if k != bigScalar(tag, b) || k < 1 || k > api.Q-1 {
				t.Errorf("%q, %v: got %d", tag, b, k)
			}
			if !slices.Equal(b, kept) {
				t.Errorf("%q: the bytes have changed", tag)
			}
		}
		if Scalar(tag, nil) != Scalar(tag, []byte{}) {
			t.Errorf("%q: nil and empty bytes differ", tag)
		}
	}
}

// ofNumber returns the digest whose number is n.
func ofNumber(n *big.Int) (d api.Digest) {
	n.FillBytes(d[:])
	return d
}

func TestRemainderOfADigest(t *testing.T) {
	const m = api.Q - 1
	all := new(big.Int).Lsh(big.NewInt(1), 256)
	quotient := new(big.Int).Div(all, big.NewInt(m))
	lastMultiple := quotient.Mul(quotient, big.NewInt(m))
	near := func(n *big.Int, by int64) *big.Int { return new(big.Int).Add(n, big.NewInt(by)) }
	for _, n := range []*big.Int{
		big.NewInt(0), big.NewInt(1), big.NewInt(m - 1), big.NewInt(m), big.NewInt(m + 1), big.NewInt(2*m - 1), big.NewInt(2 * m),
		near(lastMultiple, -1), lastMultiple, near(lastMultiple, 1), near(all, -1), new(big.Int).Rsh(all, 1),
	} {
		want := int(new(big.Int).Mod(n, big.NewInt(m)).Int64())
		if got := remainder(ofNumber(n), m); got != want {
			t.Errorf("%d: got %d, want %d", n, got, want)
		}
	}
}

// must returns the result of a call that has no error.
func must(t *testing.T) func(c int, e api.Errno) int {
	return func(c int, e api.Errno) int {
		t.Helper()
		if e != api.OK {
			t.Fatal(e)
		}
		return c
	}
}

func TestLawsOfElements(t *testing.T) {
	ok := must(t)
	next := random(api.Q)
	for range 200 {
		j, k := next(), next()
		a, b, c := ok(Base(next())), ok(Base(j)), ok(Base(k))
		if ok(Mul(ok(Mul(a, b)), c)) != ok(Mul(a, ok(Mul(b, c)))) {
			t.Errorf("not associative: %d, %d, %d", a, b, c)
		}
		if ok(Mul(a, b)) != ok(Mul(b, a)) {
			t.Errorf("not commutative: %d, %d", a, b)
		}
		if ok(Mul(a, 1)) != a || ok(Mul(a, ok(Inv(a)))) != 1 {
			t.Errorf("1 is not neutral, or no product with the inverse: %d", a)
		}
		if ok(Mul(ok(Exp(a, j)), ok(Exp(a, k)))) != ok(Exp(a, ok(Sum(j, k)))) {
			t.Errorf("exponents are not added: %d, %d, %d", a, j, k)
		}
		if ok(Exp(ok(Exp(a, j)), k)) != ok(Exp(a, ok(Product(j, k)))) {
			t.Errorf("exponents are not multiplied: %d, %d, %d", a, j, k)
		}
	}
}

func TestLawsOfScalars(t *testing.T) {
	ok := must(t)
	next := random(api.Q)
	for range 500 {
		a, b, c := next(), next(), next()
		for _, f := range []func(int, int) (int, api.Errno){Sum, Product} {
			if ok(f(a, b)) != ok(f(b, a)) || ok(f(ok(f(a, b)), c)) != ok(f(a, ok(f(b, c)))) {
				t.Errorf("not commutative, or not associative: %d, %d, %d", a, b, c)
			}
		}
		if ok(Product(a, ok(Sum(b, c)))) != ok(Sum(ok(Product(a, b)), ok(Product(a, c)))) {
			t.Errorf("not distributive: %d, %d, %d", a, b, c)
		}
	}
}

func FuzzNumbers(f *testing.F) {
	for _, a := range outside {
		f.Add(a, 4)
		f.Add(4, a)
	}
	f.Add(api.P-2, api.Q-1)
	f.Fuzz(func(t *testing.T, a, b int) {
		element := a >= 1 && a < api.P && isSquare(a)
		scalar := b >= 0 && b < api.Q
		if (Check(a) == api.OK) != element {
			t.Errorf("Check(%d) is %d", a, Check(a))
		}
		c, e := Exp(a, b)
		switch {
		case !element:
			wantError(t, c, e, api.ErrGroup, "Exp", a, b)
		case !scalar:
			wantError(t, c, e, api.ErrArg, "Exp", a, b)
		default:
			want(t, c, e, bigPower(a, b, api.P), "Exp", a, b)
		}
		if s, e := Sum(a, b); scalar && a >= 0 && a < api.Q {
			want(t, s, e, bigSum(a, b, api.Q), "Sum", a, b)
		} else {
			wantError(t, s, e, api.ErrArg, "Sum", a, b)
		}
	})
}
