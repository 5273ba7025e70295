package nat_test

import (
	"math"
	"math/big"
	"testing"

	"guilloche/api"
	"guilloche/nat"
)

// bestOf tries all denominators. In ascending order, the lower neighbor first, the first one of several equally near fractions is the one that is wanted.
func bestOf(x *big.Rat, most int64) *big.Rat {
	var best, least *big.Rat
	for den := int64(1); den <= most; den++ {
		num := new(big.Int).Mul(x.Num(), big.NewInt(den))
		num.Div(num, x.Denom())
		for range 2 {
			y := new(big.Rat).SetFrac(num, big.NewInt(den))
			gap := new(big.Rat).Sub(x, y)
			gap.Abs(gap)
			if best == nil || gap.Cmp(least) < 0 {
				best, least = y, gap
			}
			num.Add(num, big.NewInt(1))
		}
	}
	return best
}

func checkBest(t *testing.T, x *big.Rat, most int) {
	t.Helper()
	got, err := fromRat(t, x).Best(most)
	checkRat(t, "Best of "+x.String(), got, err, bestOf(x, int64(most)))
}

func TestBestOfSmallFractions(t *testing.T) {
	for den := int64(1); den <= 24; den++ {
		for num := range 3 * den {
			for most := 1; most <= 25; most++ {
				checkBest(t, big.NewRat(num, den), most)
			}
		}
	}
}

func TestBestOfGreatFractions(t *testing.T) {
	for _, x := range fractions() {
		for _, most := range []int{1, 2, 3, 7, 30} {
			checkBest(t, x, most)
		}
	}
	r := newSource(5)
	for range 20 {
		x := big.NewRat(r.Int64N(1<<40), 1+r.Int64N(1<<30))
		checkBest(t, x, 1+r.IntN(400))
	}
}

func TestBestExamples(t *testing.T) {
	pi := "314159265358979323846264338327950288/100000000000000000000000000000000000"
	x, _ := new(big.Rat).SetString(pi)
	for _, c := range []struct {
		f    nat.Frac
		most int
		want string
	}{
		{parseFrac(t, "314159/100000"), 10, "22/7"},
		{parseFrac(t, "1/2"), 1, "0"},
		{parseFrac(t, "3/2"), 1, "1"},
		{parseFrac(t, "2/3"), 1, "1"},
		{parseFrac(t, "1/3"), 2, "1/2"},
		{parseFrac(t, "1/4"), 2, "0"},
		{parseFrac(t, "3/4"), 2, "1"},
		{parseFrac(t, "3/8"), 7, "2/5"},
		{parseFrac(t, "22/7"), 7, "22/7"},
		{parseFrac(t, "22/7"), math.MaxInt, "22/7"},
		{parseFrac(t, "5"), 1, "5"},
		{fromRat(t, x), 106, "333/106"},
		{fromRat(t, x), 113, "355/113"},
		{fromRat(t, x), 33102, "103993/33102"},
	} {
		got, err := c.f.Best(c.most)
		checkFrac(t, "Best of "+c.f.String(), got, err, c.want, api.OK)
	}
	for _, most := range []int{0, -1, math.MinInt} {
		for _, f := range []nat.Frac{{}, parseFrac(t, "22/7")} {
			got, err := f.Best(most)
			checkFrac(t, "Best of no denominator", got, err, "", api.ErrArg)
		}
	}
}

// Both neighbors of a fraction with the denominator 2 are equally near; the greater one has as many bits as fit.
func TestBestAtTheLimit(t *testing.T) {
	f, err := nat.NewFrac(fromBig(t, greatest()), parse(t, "2"))
	checkFrac(t, "NewFrac", f, err, greatest().String()+"/2", api.OK)
	got, err := f.Best(1)
	checkFrac(t, "Best(1)", got, err, twoTo(api.MaxBits-1, -1).String(), api.OK)
	got, err = f.Best(2)
	checkFrac(t, "Best(2)", got, err, f.String(), api.OK)
}

// beyond returns the fraction next to y on the side of x, among those whose denominator is at most most, which that of y is.
func beyond(x, y *big.Rat, most *big.Int) *big.Rat {
	side := big.NewInt(int64(x.Cmp(y)))
	inverse := new(big.Int)
	if !y.IsInt() {
		inverse.ModInverse(y.Num(), y.Denom())
	}
	// The terms r and s of the neighbor of p/q satisfy r*q - p*s = side, and s is as great as possible.
	s := new(big.Int).Mul(side, inverse)
	s.Add(s, most).Mod(s, y.Denom())
	s.Sub(most, s)
	r := new(big.Int).Mul(y.Num(), s)
	r.Add(r, side).Div(r, y.Denom())
	return new(big.Rat).SetFrac(r, s)
}

func distance(x, y *big.Rat) *big.Rat {
	gap := new(big.Rat).Sub(x, y)
	return gap.Abs(gap)
}

// checkNearest compares the result with its neighbor on the other side of the fraction: all others are farther away.
func checkNearest(t *testing.T, x *big.Rat, most int) {
	t.Helper()
	got, err := fromRat(t, x).Best(most)
	y, limit := toRat(t, got), big.NewInt(int64(most))
	if err != api.OK || y.Denom().Cmp(limit) > 0 {
		t.Errorf("Best(%d) of %.40s = %s, %d", most, x, got, err)
		return
	}
	if x.Cmp(y) == 0 {
		return
	}
	z := beyond(x, y, limit)
	if x.Cmp(y) != z.Cmp(x) {
		t.Errorf("Best(%d) of %.40s = %s: %s lies between", most, x, got, z)
	}
	order := distance(x, y).Cmp(distance(x, z))
	if order == 0 {
		order = y.Denom().Cmp(z.Denom())
	}
	if order == 0 {
		order = y.Cmp(z)
	}
	if order >= 0 {
		t.Errorf("Best(%d) of %.40s = %s: %s is to be preferred", most, x, got, z)
	}
}

func TestBestOfGreatDenominators(t *testing.T) {
	for _, x := range fractions() {
		for _, most := range []int{1, 2, 1000, 1 << 32, math.MaxInt - 1, math.MaxInt} {
			checkNearest(t, x, most)
		}
	}
	r := newSource(8)
	for range 2000 {
		x := big.NewRat(r.Int64N(1<<50), 1+r.Int64N(1<<40))
		checkNearest(t, x, 1+r.IntN(1<<r.IntN(41)))
	}
}
