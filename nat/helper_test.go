package nat_test

import (
	"math/big"
	"math/rand/v2"
	"testing"

	"guilloche/api"
	"guilloche/nat"
)

// The tests compute what they expect with math/big.

func parse(t *testing.T, s string) nat.Nat {
	t.Helper()
	n, err := nat.Parse(s)
	if err != api.OK {
		t.Fatalf("Parse(%.40s) = %d", s, err)
	}
	return n
}

func parseFrac(t *testing.T, s string) nat.Frac {
	t.Helper()
	f, err := nat.ParseFrac(s)
	if err != api.OK {
		t.Fatalf("ParseFrac(%.40s) = %d", s, err)
	}
	return f
}

func fromBig(t *testing.T, n *big.Int) nat.Nat {
	t.Helper()
	return parse(t, n.String())
}

func toBig(t *testing.T, n nat.Nat) *big.Int {
	t.Helper()
	b, ok := new(big.Int).SetString(n.String(), 10)
	if !ok {
		t.Fatalf("String() = %q", n.String())
	}
	return b
}

// fromRat returns the fraction that is the quotient of its terms.
func fromRat(t *testing.T, r *big.Rat) nat.Frac {
	t.Helper()
	f, err := nat.NewFrac(fromBig(t, r.Num()), fromBig(t, r.Denom()))
	if err != api.OK {
		t.Fatalf("NewFrac of %v = %d", r, err)
	}
	return f
}

func toRat(t *testing.T, f nat.Frac) *big.Rat {
	t.Helper()
	return new(big.Rat).SetFrac(toBig(t, f.Num()), toBig(t, f.Den()))
}

// twoTo returns 2^n + more.
func twoTo(n uint, more int64) *big.Int {
	p := new(big.Int).Lsh(big.NewInt(1), n)
	return p.Add(p, big.NewInt(more))
}

func greatest() *big.Int { return twoTo(api.MaxBits, -1) }

func fits(n *big.Int) bool { return n.BitLen() <= api.MaxBits }

func newSource(seed uint64) *rand.Rand { return rand.New(rand.NewPCG(seed, 1)) }

// mixed returns a number of so many digits to the base 2^32, most of which are near the ends or the middle of their range.
func mixed(r *rand.Rand, digits int) *big.Int {
	n := new(big.Int)
	for range digits {
		special := []uint32{0, 0, 1, 1<<31 - 1, 1 << 31, 1<<31 + 1, 1<<32 - 2, 1<<32 - 1, 1<<32 - 1, r.Uint32()}
		digit := special[r.IntN(len(special))]
		n.Lsh(n, 32).Or(n, big.NewInt(int64(digit)))
	}
	return n
}

// operands returns numbers of all sizes, the edges of digits among them.
func operands() []*big.Int {
	out := []*big.Int{greatest(), twoTo(api.MaxBits-1, 0)}
	for _, n := range []int64{0, 1, 2, 3, 10, 999_999_999, 1_000_000_000} {
		out = append(out, big.NewInt(n))
	}
	for _, n := range []uint{31, 32, 33, 63, 64, 96} {
		out = append(out, twoTo(n, -1), twoTo(n, 0), twoTo(n, 1))
	}
	r := newSource(1)
	for _, n := range []int{2, 3, 5, 17, 100, 256, 300} {
		out = append(out, mixed(r, n))
	}
	return out
}

// check compares a result with a value, or with an error if that is not OK.
func check(t *testing.T, call string, got nat.Nat, err api.Errno, want *big.Int, wantErr api.Errno) {
	t.Helper()
	if err != wantErr {
		t.Errorf("%.80s: error %d, want %d", call, err, wantErr)
		return
	}
	if wantErr != api.OK {
		want = new(big.Int)
	}
	if toBig(t, got).Cmp(want) != 0 {
		t.Errorf("%.80s = %.40s, want %.40s", call, got, want)
	}
}

// checkFitting expects the value want, or ErrRange if it does not fit.
func checkFitting(t *testing.T, call string, got nat.Nat, err api.Errno, want *big.Int) {
	t.Helper()
	if fits(want) {
		check(t, call, got, err, want, api.OK)
	} else {
		check(t, call, got, err, nil, api.ErrRange)
	}
}

func checkFrac(t *testing.T, call string, got nat.Frac, err api.Errno, want string, wantErr api.Errno) {
	t.Helper()
	if err != wantErr {
		t.Errorf("%.80s: error %d, want %d", call, err, wantErr)
		return
	}
	if wantErr != api.OK {
		want = "0"
	}
	if got.String() != want {
		t.Errorf("%.80s = %.40s, want %.40s", call, got, want)
	}
}
