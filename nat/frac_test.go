package nat_test

import (
	"math/big"
	"strings"
	"testing"

	"guilloche/api"
	"guilloche/nat"
)

func TestNewFrac(t *testing.T) {
	for _, c := range []struct{ num, den, want string }{
		{"0", "1", "0"}, {"0", "7", "0"}, {"7", "1", "7"}, {"7", "7", "1"}, {"6", "4", "3/2"}, {"4", "6", "2/3"},
		{"18446744073709551616", "4294967296", "4294967296"},
		{"1", greatest().String(), "1/" + greatest().String()},
	} {
		f, err := nat.NewFrac(parse(t, c.num), parse(t, c.den))
		checkFrac(t, "NewFrac", f, err, c.want, api.OK)
		num, den, _ := strings.Cut(c.want+"/1", "/")
		den, _, _ = strings.Cut(den, "/")
		if f.Num().String() != num || f.Den().String() != den {
			t.Errorf("the terms of %.40s are %.40s and %.40s", c.want, f.Num(), f.Den())
		}
	}
	for _, num := range []string{"0", "1", "5"} {
		f, err := nat.NewFrac(parse(t, num), nat.Nat{})
		checkFrac(t, "NewFrac by 0", f, err, "", api.ErrZero)
	}
}

func TestZeroFrac(t *testing.T) {
	var zero nat.Frac
	if zero.String() != "0" || zero.Num().String() != "0" || zero.Den().String() != "1" || zero.Floor().String() != "0" {
		t.Errorf("the zero value is %s", zero)
	}
	half := parseFrac(t, "1/2")
	if zero.Cmp(parseFrac(t, "0")) != 0 || zero.Cmp(half) != -1 || half.Cmp(zero) != 1 {
		t.Error("the zero value is not compared as 0")
	}
	f, err := zero.Add(half)
	checkFrac(t, "0 + 1/2", f, err, "1/2", api.OK)
	f, err = half.Sub(zero)
	checkFrac(t, "1/2 - 0", f, err, "1/2", api.OK)
	f, err = zero.Mul(half)
	checkFrac(t, "0 * 1/2", f, err, "0", api.OK)
	f, err = zero.Div(half)
	checkFrac(t, "0 / (1/2)", f, err, "0", api.OK)
	f, err = half.Div(zero)
	checkFrac(t, "1/2 / 0", f, err, "", api.ErrZero)
	f, err = zero.Best(1)
	checkFrac(t, "Best of 0", f, err, "0", api.OK)
}

func TestParseFrac(t *testing.T) {
	most := greatest().String()
	for _, s := range []string{"0", "1", "12", "1/2", "3/2", "22/7", "1000000000/999999999", most, "1/" + most, most + "/2"} {
		f, err := nat.ParseFrac(s)
		checkFrac(t, "ParseFrac", f, err, s, api.OK)
		back, err := nat.NewFrac(f.Num(), f.Den())
		checkFrac(t, "the fraction of the terms", back, err, s, api.OK)
	}
}

func TestParseFracErrors(t *testing.T) {
	above := twoTo(api.MaxBits, 0).String()
	for _, s := range []string{"", "/", "1/", "/2", "1//2", "1/2/3", "1/2/", "2/4", "3/3", "0/1", "0/2", "0/5", "3/1", "3/0", "0/0", "01/2", "1/02", "-1/2", "1/-2", "1 /2", "1/ 2", "1/2 ", "a/2", "1/b", "1/2\n",
		above + "/", above + "/x", above + "/0", above + "/1", above + "/02", "x/" + above, "/" + above, above + "/3/5", "6/10", "10/4294967296"} {
		f, err := nat.ParseFrac(s)
		checkFrac(t, "ParseFrac("+s+")", f, err, "", api.ErrSyntax)
	}
	for _, s := range []string{above, above + "/3", "3/" + above, "0/" + above, "2/" + above, above + "/2", above + "/" + above} {
		f, err := nat.ParseFrac(s)
		checkFrac(t, "ParseFrac("+s+")", f, err, "", api.ErrRange)
	}
}

func fractions() []*big.Rat {
	out := []*big.Rat{
		new(big.Rat).SetInt(greatest()),
		new(big.Rat).SetFrac(big.NewInt(1), greatest()),
		new(big.Rat).SetFrac(greatest(), twoTo(api.MaxBits-1, 0)),
		new(big.Rat).SetFrac(twoTo(api.MaxBits-1, 0), greatest()),
	}
	for _, p := range [][2]int64{{0, 1}, {1, 1}, {2, 1}, {1, 2}, {1, 3}, {2, 3}, {3, 2}, {1, 6}, {5, 6}, {22, 7}, {314159, 100000}, {1 << 40, 1<<40 - 1}} {
		out = append(out, big.NewRat(p[0], p[1]))
	}
	r := newSource(4)
	for range 12 {
		den := mixed(r, 1+r.IntN(20))
		out = append(out, new(big.Rat).SetFrac(mixed(r, 1+r.IntN(20)), den.Or(den, big.NewInt(1))))
	}
	return out
}

func checkRat(t *testing.T, call string, got nat.Frac, err api.Errno, want *big.Rat) {
	t.Helper()
	if !fits(want.Num()) || !fits(want.Denom()) {
		checkFrac(t, call, got, err, "", api.ErrRange)
		return
	}
	text := want.Num().String()
	if !want.IsInt() {
		text += "/" + want.Denom().String()
	}
	checkFrac(t, call, got, err, text, api.OK)
}

func TestFracPairs(t *testing.T) {
	all := fractions()
	for _, x := range all {
		for _, y := range all {
			f, g := fromRat(t, x), fromRat(t, y)
			if got := f.Cmp(g); got != x.Cmp(y) {
				t.Errorf("Cmp(%.40s, %.40s) = %d", x, y, got)
			}
			got, err := f.Add(g)
			checkRat(t, "Add", got, err, new(big.Rat).Add(x, y))
			got, err = f.Mul(g)
			checkRat(t, "Mul", got, err, new(big.Rat).Mul(x, y))
			got, err = f.Sub(g)
			if x.Cmp(y) < 0 {
				checkFrac(t, "Sub", got, err, "", api.ErrNegative)
			} else {
				checkRat(t, "Sub", got, err, new(big.Rat).Sub(x, y))
			}
			got, err = f.Div(g)
			if y.Sign() == 0 {
				checkFrac(t, "Div", got, err, "", api.ErrZero)
			} else {
				checkRat(t, "Div", got, err, new(big.Rat).Quo(x, y))
			}
		}
	}
}

// Fractions whose products do not fit, and which differ only in the last digits of these.
func TestCmpOfNeighbors(t *testing.T) {
	n := fromBig(t, greatest())
	under := fromBig(t, twoTo(api.MaxBits, -2))
	below := fromBig(t, twoTo(api.MaxBits, -3))
	f, _ := nat.NewFrac(under, n)
	g, _ := nat.NewFrac(below, under)
	if f.Cmp(g) != 1 || g.Cmp(f) != -1 || f.Cmp(f) != 0 {
		t.Errorf("Cmp of neighbors = %d, %d, %d", f.Cmp(g), g.Cmp(f), f.Cmp(f))
	}
	got, err := f.Sub(g)
	checkFrac(t, "the difference of neighbors", got, err, "", api.ErrRange)
	got, err = g.Sub(f)
	checkFrac(t, "the negative difference of neighbors", got, err, "", api.ErrNegative)
	got, err = f.Sub(f)
	checkFrac(t, "the difference of equals", got, err, "0", api.OK)
	got, err = f.Div(f)
	checkFrac(t, "the quotient of equals", got, err, "1", api.OK)
}

func TestFloor(t *testing.T) {
	for _, x := range fractions() {
		want := new(big.Int).Div(x.Num(), x.Denom())
		check(t, "Floor of "+x.String(), fromRat(t, x).Floor(), api.OK, want, api.OK)
	}
}
