package nat_test

import (
	"math/big"
	"testing"

	"guilloche/api"
	"guilloche/nat"
)

func equal(t *testing.T, law string, a, b nat.Nat, errA, errB api.Errno) {
	t.Helper()
	if a.Cmp(b) != 0 || a.String() != b.String() || errA != errB {
		t.Errorf("%s: %.40s (%d) and %.40s (%d)", law, a, errA, b, errB)
	}
}

func TestLaws(t *testing.T) {
	r := newSource(6)
	for range 300 {
		a, b, c := fromBig(t, mixed(r, 1+r.IntN(30))), fromBig(t, mixed(r, 1+r.IntN(30))), fromBig(t, mixed(r, 1+r.IntN(30)))
		ab, e := a.Add(b)
		ba, f := b.Add(a)
		equal(t, "a + b", ab, ba, e, f)
		bc, _ := b.Add(c)
		left, e := ab.Add(c)
		right, f := a.Add(bc)
		equal(t, "a + b + c", left, right, e, f)
		right, e = a.Mul(bc)
		ab, f = a.Mul(b)
		ba, g := b.Mul(a)
		equal(t, "a * b", ab, ba, f, g)
		ac, _ := a.Mul(c)
		left, f = ab.Add(ac)
		equal(t, "a * (b + c)", left, right, f, e)
		bc, _ = b.Mul(c)
		left, e = ab.Mul(c)
		right, f = a.Mul(bc)
		equal(t, "a * b * c", left, right, e, f)
	}
}

func TestDivisionLaw(t *testing.T) {
	all := operands()
	for _, x := range all {
		for _, y := range all {
			a, b := fromBig(t, x), fromBig(t, y)
			quotient, rest, err := a.DivMod(b)
			if err != api.OK {
				continue
			}
			whole, e := quotient.Mul(b)
			back, f := whole.Add(rest)
			equal(t, "quotient * b + remainder", back, a, e, f)
			if rest.Cmp(b) >= 0 {
				t.Errorf("the remainder %.40s is not less than %.40s", rest, b)
			}
		}
	}
}

func TestDivisorLaw(t *testing.T) {
	r := newSource(7)
	for range 200 {
		x, y := mixed(r, 1+r.IntN(20)), mixed(r, 1+r.IntN(20))
		x.Add(x, big.NewInt(1))
		y.Add(y, big.NewInt(1))
		a, b := fromBig(t, x), fromBig(t, y)
		divisor := nat.Gcd(a, b)
		part, _, _ := a.DivMod(divisor)
		multiple, _ := part.Mul(b) // the least common multiple
		if _, rest, _ := multiple.DivMod(a); rest.BitLen() != 0 {
			t.Errorf("%.40s is no multiple of %.40s", multiple, a)
		}
		left, e := divisor.Mul(multiple)
		right, f := a.Mul(b)
		equal(t, "divisor times multiple", left, right, e, f)
	}
}

func TestPascal(t *testing.T) {
	for _, n := range []int{0, 1, 5, 63, 64, 500, api.MaxChoose - 1} {
		for _, k := range []int{0, 1, 2, 4, 31, 250, 2047, api.MaxChoose - 1, api.MaxChoose} {
			left, _ := nat.Binomial(n, k)
			right, _ := nat.Binomial(n, k+1)
			both, e := left.Add(right)
			below, f := nat.Binomial(n+1, k+1)
			equal(t, "Pascal's triangle", both, below, e, f)
		}
	}
}

func TestTextsAreReadBack(t *testing.T) {
	for _, x := range operands() {
		a := fromBig(t, x)
		back, err := nat.Parse(a.String())
		equal(t, "a numeral", back, a, err, api.OK)
	}
	for _, x := range fractions() {
		f := fromRat(t, x)
		back, err := nat.ParseFrac(f.String())
		if back.Cmp(f) != 0 || back.String() != f.String() || err != api.OK {
			t.Errorf("a fraction's text: %.40s, %.40s, %d", f, back, err)
		}
	}
}

// A value never changes, whatever is computed with it.
func TestValuesStay(t *testing.T) {
	a, b := fromBig(t, twoTo(200, -1)), fromBig(t, twoTo(64, -1))
	quotient, rest, _ := a.DivMod(b)
	values := []nat.Nat{a, b, quotient, rest, nat.Gcd(a, nat.Nat{}), parseFrac(t, "22/7").Num()}
	var texts []string
	for _, v := range values {
		texts = append(texts, v.String())
	}
	for _, v := range values {
		for _, w := range values {
			v.Add(w)
			v.Sub(w)
			v.Mul(w)
			v.DivMod(w)
			v.PowMod(w, b)
			v.Inverse(w)
			nat.Gcd(v, w)
			f, _ := nat.NewFrac(v, w)
			f.Add(f)
			f.Best(3)
		}
		v.Lsh(7)
		v.Rsh(7)
		v.Sqrt()
	}
	for i, v := range values {
		if v.String() != texts[i] {
			t.Errorf("%s has become %s", texts[i], v)
		}
	}
}
