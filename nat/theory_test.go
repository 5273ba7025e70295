package nat_test

import (
	"math"
	"math/big"
	"testing"

	"guilloche/api"
	"guilloche/nat"
)

func TestSmallTheory(t *testing.T) {
	for a := range int64(20) {
		for m := range int64(20) {
			checkInverse(t, big.NewInt(a), big.NewInt(m))
			checkGcd(t, big.NewInt(a), big.NewInt(m))
			for e := range int64(8) {
				checkPowMod(t, big.NewInt(a), big.NewInt(e), big.NewInt(m))
			}
		}
	}
}

func TestGreatTheory(t *testing.T) {
	r := newSource(3)
	for i := range 150 {
		n := 1 + i/3
		a, m, e := mixed(r, 1+r.IntN(n)), mixed(r, 1+r.IntN(n)), mixed(r, 1+r.IntN(3))
		checkPowMod(t, a, e, m)
		checkInverse(t, a, m)
		checkGcd(t, a, m)
		common := mixed(r, 1+r.IntN(n))
		checkGcd(t, a.Mul(a, common), m.Mul(m, common))
	}
	checkInverse(t, big.NewInt(2), greatest())
	checkInverse(t, greatest(), twoTo(api.MaxBits-1, 0))
	checkGcd(t, greatest(), twoTo(api.MaxBits/2, -1))
	checkPowMod(t, greatest(), big.NewInt(65537), twoTo(api.MaxBits-1, 9))
}

func checkPowMod(t *testing.T, a, e, m *big.Int) {
	t.Helper()
	got, err := fromBig(t, a).PowMod(fromBig(t, e), fromBig(t, m))
	call := "PowMod of " + a.String() + ", " + e.String() + ", " + m.String()
	if m.Sign() == 0 {
		check(t, call, got, err, nil, api.ErrZero)
	} else {
		check(t, call, got, err, new(big.Int).Exp(a, e, m), api.OK)
	}
}

func checkInverse(t *testing.T, a, m *big.Int) {
	t.Helper()
	got, err := fromBig(t, a).Inverse(fromBig(t, m))
	call := "Inverse of " + a.String() + ", " + m.String()
	switch {
	case m.Sign() == 0:
		check(t, call, got, err, nil, api.ErrZero)
	case m.Cmp(big.NewInt(1)) == 0:
		check(t, call, got, err, new(big.Int), api.OK)
	case new(big.Int).GCD(nil, nil, a, m).Cmp(big.NewInt(1)) != 0:
		check(t, call, got, err, nil, api.ErrNoInverse)
	default:
		check(t, call, got, err, new(big.Int).ModInverse(a, m), api.OK)
	}
}

func checkGcd(t *testing.T, a, b *big.Int) {
	t.Helper()
	got := nat.Gcd(fromBig(t, a), fromBig(t, b))
	check(t, "Gcd of "+a.String()+", "+b.String(), got, api.OK, new(big.Int).GCD(nil, nil, a, b), api.OK)
}

func TestTheoryExamples(t *testing.T) {
	got, err := parse(t, "3").Inverse(parse(t, "10"))
	check(t, "the inverse of 3 modulo 10", got, err, big.NewInt(7), api.OK)
	got, err = parse(t, "4").Inverse(parse(t, "10"))
	check(t, "the inverse of 4 modulo 10", got, err, nil, api.ErrNoInverse)
	got, err = parse(t, "13").Inverse(parse(t, "10"))
	check(t, "the inverse of 13 modulo 10", got, err, big.NewInt(7), api.OK)
	got, err = nat.Nat{}.PowMod(nat.Nat{}, parse(t, "1"))
	check(t, "0 to the power 0 modulo 1", got, err, new(big.Int), api.OK)
	got, err = nat.Nat{}.PowMod(nat.Nat{}, parse(t, "5"))
	check(t, "0 to the power 0 modulo 5", got, err, big.NewInt(1), api.OK)
	check(t, "Gcd of 0 and 0", nat.Gcd(nat.Nat{}, nat.Nat{}), api.OK, new(big.Int), api.OK)
	check(t, "Gcd of 0 and 7", nat.Gcd(nat.Nat{}, parse(t, "7")), api.OK, big.NewInt(7), api.OK)
	check(t, "Gcd of 7 and 0", nat.Gcd(parse(t, "7"), nat.Nat{}), api.OK, big.NewInt(7), api.OK)
}

func TestSqrt(t *testing.T) {
	for n := range int64(1000) {
		checkSqrt(t, big.NewInt(n))
	}
	for _, n := range operands() {
		checkSqrt(t, n)
		square := new(big.Int).Mul(n, n)
		if fits(square) {
			checkSqrt(t, square)
			checkSqrt(t, new(big.Int).Add(square, n))
		}
		if fits(square) && square.Sign() > 0 {
			checkSqrt(t, square.Sub(square, big.NewInt(1)))
		}
	}
}

func checkSqrt(t *testing.T, n *big.Int) {
	t.Helper()
	check(t, "Sqrt of "+n.String(), fromBig(t, n).Sqrt(), api.OK, new(big.Int).Sqrt(n), api.OK)
}

func TestBinomial(t *testing.T) {
	for n := range 40 {
		for k := range 45 {
			got, err := nat.Binomial(n, k)
			check(t, "Binomial", got, err, new(big.Int).Binomial(int64(n), int64(k)), api.OK)
		}
	}
	for _, k := range []int{0, 1, 2, 100, 2047, 2048, 2049, 4000, 4095, 4096, 4097, math.MaxInt} {
		got, err := nat.Binomial(api.MaxChoose, k)
		want := new(big.Int)
		if k <= api.MaxChoose {
			want.Binomial(api.MaxChoose, int64(k))
		}
		check(t, "Binomial of MaxChoose", got, err, want, api.OK)
	}
}

func TestBinomialErrors(t *testing.T) {
	for _, pair := range [][2]int{{-1, 0}, {math.MinInt, 0}, {api.MaxChoose + 1, 0}, {math.MaxInt, math.MaxInt}, {5, -1}, {0, -1}, {5, math.MinInt}, {-1, -1}, {api.MaxChoose, -1}} {
		got, err := nat.Binomial(pair[0], pair[1])
		check(t, "Binomial of a number out of range", got, err, nil, api.ErrArg)
	}
}
