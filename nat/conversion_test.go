package nat_test

import (
	"math"
	"math/big"
	"strings"
	"testing"

	"guilloche/api"
	"guilloche/nat"
)

func TestNew(t *testing.T) {
	for _, n := range []int{0, 1, 9, math.MaxUint32, math.MaxUint32 + 1, math.MaxInt} {
		got, err := nat.New(n)
		check(t, "New", got, err, big.NewInt(int64(n)), api.OK)
		if back, ok := got.Int(); back != n || !ok {
			t.Errorf("Int of New(%d) = %d, %t", n, back, ok)
		}
	}
	for _, n := range []int{-1, math.MinInt} {
		got, err := nat.New(n)
		check(t, "New of a negative number", got, err, nil, api.ErrArg)
	}
}

func TestNumerals(t *testing.T) {
	numerals := []string{"0", "9", "10", "999999999", "1000000000", "1000000001", "123000000000000000000456", "4294967296", "18446744073709551616"}
	for _, n := range operands() {
		numerals = append(numerals, n.String())
	}
	for _, s := range numerals {
		n, err := nat.Parse(s)
		if err != api.OK || n.String() != s {
			t.Errorf("Parse(%.40s) = %.40s, %d", s, n, err)
		}
		want, _ := new(big.Int).SetString(s, 10)
		for i := range want.BitLen() {
			if n.Bit(i) != int(want.Bit(i)) {
				t.Fatalf("digit %d of %.40s = %d", i, s, n.Bit(i))
			}
		}
	}
}

func TestParseErrors(t *testing.T) {
	long := strings.Repeat("7", 10000)
	for _, s := range []string{"", "00", "01", "007", "-1", "+1", "1x", "x1", " 1", "1 ", "1\n", "1_000", "0x10", "1.0", "1e3", "/", ":", "\x00", "1\xff", "٣", long + "x", "0" + long} {
		got, err := nat.Parse(s)
		check(t, "Parse("+s+")", got, err, nil, api.ErrSyntax)
	}
	for _, s := range []string{twoTo(api.MaxBits, 0).String(), twoTo(api.MaxBits, 1).String(), long, "1" + strings.Repeat("0", 4933), "1" + strings.Repeat("0", 1<<20)} {
		got, err := nat.Parse(s)
		check(t, "Parse("+s+")", got, err, nil, api.ErrRange)
	}
	got, err := nat.Parse(greatest().String())
	check(t, "Parse of the greatest number", got, err, greatest(), api.OK)
}

func TestInt(t *testing.T) {
	for _, n := range []*big.Int{new(big.Int), big.NewInt(1), twoTo(32, 0), twoTo(63, -1)} {
		if got, ok := fromBig(t, n).Int(); int64(got) != n.Int64() || !ok {
			t.Errorf("Int of %v = %d, %t", n, got, ok)
		}
	}
	for _, n := range []*big.Int{twoTo(63, 0), twoTo(64, -1), twoTo(64, 0), twoTo(64, 5), twoTo(96, 0), greatest()} {
		if got, ok := fromBig(t, n).Int(); got != 0 || ok {
			t.Errorf("Int of %.40s = %d, %t", n, got, ok)
		}
	}
}

func TestBits(t *testing.T) {
	for _, n := range operands() {
		if got := fromBig(t, n).BitLen(); got != n.BitLen() {
			t.Errorf("BitLen of %.40s = %d", n, got)
		}
	}
	for _, n := range []nat.Nat{{}, parse(t, "5"), fromBig(t, greatest())} {
		for _, i := range []int{-1, -31, -32, -33, math.MinInt, n.BitLen(), n.BitLen() + 1, n.BitLen() + 32, api.MaxBits, math.MaxInt} {
			if n.Bit(i) != 0 {
				t.Errorf("Bit(%d) of %.40s is not 0", i, n)
			}
		}
	}
	if five := parse(t, "5"); five.Bit(0) != 1 || five.Bit(1) != 0 || five.Bit(2) != 1 {
		t.Error("the binary digits of 5 are not 101")
	}
}

func TestZeroNat(t *testing.T) {
	var zero nat.Nat
	if n, ok := zero.Int(); zero.String() != "0" || n != 0 || !ok || zero.BitLen() != 0 || zero.Cmp(parse(t, "0")) != 0 {
		t.Error("the zero value is not the number 0")
	}
	if n, err := zero.Add(parse(t, "7")); n.String() != "7" || err != api.OK {
		t.Errorf("0 + 7 = %s, %d", n, err)
	}
}
