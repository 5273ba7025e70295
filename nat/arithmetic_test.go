package nat_test

import (
	"math"
	"math/big"
	"testing"

	"guilloche/api"
	"guilloche/nat"
)

func TestPairs(t *testing.T) {
	all := operands()
	for _, x := range all {
		for _, y := range all {
			a, b := fromBig(t, x), fromBig(t, y)
			if got := a.Cmp(b); got != x.Cmp(y) {
				t.Errorf("Cmp(%.40s, %.40s) = %d", x, y, got)
			}
			got, err := a.Add(b)
			checkFitting(t, "Add", got, err, new(big.Int).Add(x, y))
			got, err = a.Mul(b)
			checkFitting(t, "Mul", got, err, new(big.Int).Mul(x, y))
			checkSub(t, x, y)
			checkDivMod(t, x, y)
			if a.String() != x.String() || b.String() != y.String() {
				t.Errorf("%.40s or %.40s has changed", x, y)
			}
		}
	}
}

func checkSub(t *testing.T, x, y *big.Int) {
	t.Helper()
	got, err := fromBig(t, x).Sub(fromBig(t, y))
	if x.Cmp(y) < 0 {
		check(t, "Sub", got, err, nil, api.ErrNegative)
	} else {
		check(t, "Sub", got, err, new(big.Int).Sub(x, y), api.OK)
	}
}

func checkDivMod(t *testing.T, x, y *big.Int) {
	t.Helper()
	quotient, rest, err := fromBig(t, x).DivMod(fromBig(t, y))
	if y.Sign() == 0 {
		check(t, "quotient by 0", quotient, err, nil, api.ErrZero)
		check(t, "remainder by 0", rest, err, nil, api.ErrZero)
		return
	}
	wantQuotient, wantRest := new(big.Int).DivMod(x, y, new(big.Int))
	check(t, "quotient of "+x.Text(16)+" by "+y.Text(16), quotient, err, wantQuotient, api.OK)
	check(t, "remainder of "+x.Text(16)+" by "+y.Text(16), rest, err, wantRest, api.OK)
}

// Digits at the ends and in the middle of their range make a long division correct its estimates, and take one digit back.
func TestLongDivision(t *testing.T) {
	r := newSource(2)
	for range 20000 {
		y := mixed(r, 1+r.IntN(4))
		x := mixed(r, 1+r.IntN(7))
		checkDivMod(t, x, y)
	}
	for range 5000 {
		y := mixed(r, 2+r.IntN(3))
		x := new(big.Int).Mul(y, mixed(r, 1+r.IntN(3)))
		checkDivMod(t, x, y)
		checkDivMod(t, new(big.Int).Add(x, big.NewInt(1)), y)
		if x.Sign() > 0 {
			checkDivMod(t, x.Sub(x, big.NewInt(1)), y)
		}
	}
}

func TestDivideExample(t *testing.T) {
	n, err := parse(t, "1").Lsh(64)
	check(t, "2^64", n, err, twoTo(64, 0), api.OK)
	quotient, rest, err := n.DivMod(parse(t, "10"))
	if quotient.String() != "1844674407370955161" || rest.String() != "6" || err != api.OK {
		t.Errorf("2^64 by 10 = %s, %s, %d", quotient, rest, err)
	}
}

func TestShifts(t *testing.T) {
	for _, x := range operands() {
		a := fromBig(t, x)
		for _, n := range []int{0, 1, 31, 32, 33, 63, 64, 65, 1000, api.MaxBits - 96, api.MaxBits - 1} {
			got, err := a.Lsh(n)
			checkFitting(t, "Lsh", got, err, new(big.Int).Lsh(x, uint(n)))
			got, err = a.Rsh(n)
			check(t, "Rsh", got, err, new(big.Int).Rsh(x, uint(n)), api.OK)
		}
	}
}

func TestShiftEdges(t *testing.T) {
	var zero nat.Nat
	one := parse(t, "1")
	for _, n := range []int{-1, math.MinInt} {
		for _, a := range []nat.Nat{zero, one} {
			got, err := a.Lsh(n)
			check(t, "Lsh of a negative number", got, err, nil, api.ErrArg)
			got, err = a.Rsh(n)
			check(t, "Rsh of a negative number", got, err, nil, api.ErrArg)
		}
	}
	for _, n := range []int{api.MaxBits, api.MaxBits + 1, math.MaxInt - 1, math.MaxInt} {
		got, err := zero.Lsh(n)
		check(t, "0 shifted to the left", got, err, new(big.Int), api.OK)
		got, err = one.Lsh(n)
		check(t, "1 shifted too far", got, err, nil, api.ErrRange)
		got, err = fromBig(t, greatest()).Rsh(n)
		check(t, "the greatest number shifted to the right", got, err, new(big.Int), api.OK)
	}
}

func TestPow(t *testing.T) {
	for _, x := range operands() {
		for _, n := range []int{0, 1, 2, 3, 5, 16, 100} {
			got, err := fromBig(t, x).Pow(n)
			checkFitting(t, "Pow", got, err, new(big.Int).Exp(x, big.NewInt(int64(n)), nil))
		}
		for _, n := range []int{-1, math.MinInt} {
			got, err := fromBig(t, x).Pow(n)
			check(t, "Pow of a negative number", got, err, nil, api.ErrArg)
		}
	}
}

func TestPowEdges(t *testing.T) {
	for _, n := range []int{api.MaxBits, math.MaxInt - 1, math.MaxInt} {
		got, err := nat.Nat{}.Pow(n)
		check(t, "a power of 0", got, err, new(big.Int), api.OK)
		got, err = parse(t, "1").Pow(n)
		check(t, "a power of 1", got, err, big.NewInt(1), api.OK)
		for _, s := range []string{"2", "3", "4294967296"} {
			got, err = parse(t, s).Pow(n)
			check(t, "a great power of "+s, got, err, nil, api.ErrRange)
		}
	}
	got, err := nat.Nat{}.Pow(0)
	check(t, "0 to the power 0", got, err, big.NewInt(1), api.OK)
	got, err = parse(t, "2").Pow(api.MaxBits - 1)
	check(t, "2 to the power MaxBits-1", got, err, twoTo(api.MaxBits-1, 0), api.OK)
	// The greatest powers that fit, and those after them.
	for _, base := range []int64{3, 5, 7, 10, 1 << 20, 1<<32 - 1} {
		n := int64(1)
		for fits(new(big.Int).Exp(big.NewInt(base), big.NewInt(n+1), nil)) {
			n++
		}
		a := fromBig(t, big.NewInt(base))
		got, err = a.Pow(int(n))
		check(t, "the greatest power", got, err, new(big.Int).Exp(big.NewInt(base), big.NewInt(n), nil), api.OK)
		got, err = a.Pow(int(n + 1))
		check(t, "the power after it", got, err, nil, api.ErrRange)
	}
}

func TestGreatestSumAndProduct(t *testing.T) {
	most := fromBig(t, greatest())
	got, err := most.Add(nat.Nat{})
	check(t, "greatest + 0", got, err, greatest(), api.OK)
	got, err = most.Add(parse(t, "1"))
	check(t, "greatest + 1", got, err, nil, api.ErrRange)
	half := fromBig(t, twoTo(api.MaxBits/2, 0))
	got, err = half.Mul(half)
	check(t, "the square of 2^(MaxBits/2)", got, err, nil, api.ErrRange)
	under := fromBig(t, twoTo(api.MaxBits/2, -1))
	got, err = half.Mul(under)
	check(t, "a product below MaxBits", got, err, new(big.Int).Mul(twoTo(api.MaxBits/2, 0), twoTo(api.MaxBits/2, -1)), api.OK)
}
