package sample_test

import (
	"math"
	"math/big"
	"slices"
	"testing"

	"guilloche/api"
	"guilloche/sample"
)

const step = 0x9E3779B97F4A7C15 // what the generator's state is increased by

// spread turns a state of the generator into its word.
func spread(z uint64) uint64 {
	z ^= z >> 30
	z *= 0xBF58476D1CE4E5B9
	z ^= z >> 27
	z *= 0x94D049BB133111EB
	return z ^ z>>31
}

// gather is the inverse of spread.
func gather(word uint64) uint64 {
	z := unshift(word, 31) * inverse(0x94D049BB133111EB)
	z = unshift(z, 27) * inverse(0xBF58476D1CE4E5B9)
	return unshift(z, 30)
}

func unshift(z uint64, n int) uint64 {
	out := z
	for range 3 {
		out = z ^ out>>n
	}
	return out
}

// inverse returns the number that yields 1 if it is multiplied by the odd number x.
func inverse(x uint64) uint64 {
	out := x
	for range 6 {
		out *= 2 - x*out
	}
	return out
}

// seedOf returns the seed with which the word is obtained after before other ones.
func seedOf(word uint64, before int) uint64 {
	return gather(word) - step*uint64(before+1)
}

// drawn draws numbers as the chapter says, with numbers of any size and a list. It also returns how many words were passed over.
func drawn(seed uint64, lot, n int) ([]int, int) {
	power := new(big.Int).Lsh(big.NewInt(1), 64)
	var out []int
	passed := 0
	for j := lot - n; j < lot; j++ {
		m := big.NewInt(int64(j + 1))
		limit := new(big.Int).Sub(power, new(big.Int).Mod(power, m))
		word := new(big.Int)
		for {
			seed += step
			word.SetUint64(spread(seed))
			if word.Cmp(limit) < 0 {
				break
			}
			passed++
		}
		number := int(word.Mod(word, m).Int64())
		if slices.Contains(out, number) {
			number = j
		}
		out = append(out, number)
	}
	slices.Sort(out)
	return out, passed
}

func expectDraw(t *testing.T, seed uint64, lot, n int, want []int) {
	t.Helper()
	got, err := sample.Draw(seed, lot, n)
	if !slices.Equal(got, want) || err != api.OK {
		t.Errorf("Draw(%d, %d, %d) = %v, %d; not %v", seed, lot, n, got, err, want)
	}
}

// The first words of the generator with the seed 1234567 are published. The lot is a power of 2, so that no word is passed over.
func TestWords(t *testing.T) {
	seed := uint64(1234567)
	for _, word := range []uint64{6457827717110365317, 3203168211198807973, 9817491932198370423, 4593380528125082431, 16408922859458223821} {
		expectDraw(t, seed, api.MaxPieces, 1, []int{int(word % api.MaxPieces)})
		seed += step
	}
}

// What is expected here was computed by a program in another language.
func TestDraws(t *testing.T) {
	expectDraw(t, 0, 10, 3, []int{0, 7, 9})
	expectDraw(t, 2, 100, 5, []int{11, 46, 49, 63, 75})
	expectDraw(t, 7, 6, 5, []int{0, 1, 2, 3, 4})
	expectDraw(t, 1234567, 52, 5, []int{9, 21, 23, 25, 37})
	expectDraw(t, math.MaxUint64, api.MaxPieces, 4, []int{329415045601, 446102618809, 467273351890, 511605717107})
	expectDraw(t, 42, api.MaxPieces-1, 3, []int{164050039851, 222041788617, 373986619833})
}

func TestDrawOfManyLots(t *testing.T) {
	for lot := range 12 {
		for n := range lot + 1 {
			for seed := range uint64(40) {
				want, _ := drawn(seed, lot, n)
				expectDraw(t, seed, lot, n, want)
			}
		}
	}
	r := newSource(3)
	for range 300 {
		seed, lot := r.Uint64(), 1+r.IntN(1<<r.IntN(41))
		n := r.IntN(min(lot, 200) + 1)
		want, _ := drawn(seed, lot, n)
		expectDraw(t, seed, lot, n, want)
	}
	for _, lot := range []int{api.MaxDraw, api.MaxDraw + 1, 5000, api.MaxPieces - 1, api.MaxPieces} {
		want, _ := drawn(99, lot, api.MaxDraw)
		expectDraw(t, 99, lot, api.MaxDraw, want)
	}
}

// The words near 2^64: those that are passed over, and the greatest ones that are not.
func TestPassedWords(t *testing.T) {
	for _, lot := range []int{3, 5, 6, 7, 10, 100, 1000, 1<<20 + 7, api.MaxPieces - 1, api.MaxPieces - 5} {
		rest := -uint64(lot) % uint64(lot)
		for _, x := range []struct {
			word   uint64
			passed int
		}{{math.MaxUint64, 1}, {-rest, 1}, {-rest - 1, 0}, {0, 0}} {
			seed := seedOf(x.word, 0)
			want, passed := drawn(seed, lot, 1)
			if passed != x.passed {
				t.Fatalf("%d words are passed over with the word %d and the lot %d", passed, x.word, lot)
			}
			expectDraw(t, seed, lot, 1, want)
		}
	}
	for _, lot := range []int{1, 2, 64, 1 << 20, api.MaxPieces} {
		expectDraw(t, seedOf(math.MaxUint64, 0), lot, 1, []int{lot - 1})
	}
	for before := range 5 {
		want, passed := drawn(seedOf(math.MaxUint64, before), 1000, 5)
		if passed != 1 {
			t.Fatalf("%d words are passed over after %d others", passed, before)
		}
		expectDraw(t, seedOf(math.MaxUint64, before), 1000, 5, want)
	}
}

func TestDrawEdges(t *testing.T) {
	for _, seed := range []uint64{0, 1, 1 << 63, math.MaxUint64} {
		for _, lot := range []int{0, 1, 50, api.MaxPieces} {
			expectDraw(t, seed, lot, 0, nil)
		}
		expectDraw(t, seed, 1, 1, []int{0})
		for _, lot := range []int{2, 50, api.MaxDraw} {
			all := make([]int, lot)
			for i := range all {
				all[i] = i
			}
			expectDraw(t, seed, lot, lot, all)
		}
	}
}

// Every set of numbers is drawn about as often as any other one.
func TestDrawIsFair(t *testing.T) {
	counts := map[[2]int]int{}
	for seed := range uint64(15000) {
		got, _ := sample.Draw(seed, 6, 2)
		counts[[2]int(got)]++
	}
	if len(counts) != 15 {
		t.Errorf("%d sets were drawn, not 15", len(counts))
	}
	for set, count := range counts {
		if count < 850 || count > 1150 {
			t.Errorf("%v was drawn %d times of 15000", set, count)
		}
	}
}

func expectNoDraw(t *testing.T, lot, n int) {
	t.Helper()
	for _, seed := range []uint64{0, 5, math.MaxUint64} {
		if got, err := sample.Draw(seed, lot, n); len(got) != 0 || err != api.ErrArg {
			t.Errorf("Draw(%d, %d, %d) = %v, %d", seed, lot, n, got, err)
		}
	}
}

func TestDrawErrors(t *testing.T) {
	for _, lot := range outside(0, api.MaxPieces) {
		expectNoDraw(t, lot, 0)
		expectNoDraw(t, lot, 1)
		expectNoDraw(t, lot, lot)
	}
	for _, lot := range []int{0, 1, 50, api.MaxDraw - 1, api.MaxDraw, api.MaxDraw + 1, api.MaxPieces} {
		for _, n := range outside(0, min(lot, api.MaxDraw)) {
			expectNoDraw(t, lot, n)
		}
	}
}
