package serial_test

import (
	"math/rand/v2"
	"strings"
	"testing"

	"guilloche/api"
	"guilloche/serial"
)

// No two serials with check characters differ at exactly one position.
func TestNearOfSerialsIsEmpty(t *testing.T) {
	r := rand.New(rand.NewPCG(8, 8))
	for _, s := range append(smallSchemes(), greatSchemes()...) {
		if !s.Check {
			continue
		}
		total, _ := serial.Count(s)
		for range 30 {
			text, _ := serial.Text(s, r.IntN(total))
			near, err := serial.Near(s, text)
			if len(near) != 0 || err != api.OK {
				t.Errorf("Near(%v, %s) = %v, %d", s, text, near, err)
			}
		}
	}
}

func TestMatchesOfAnythingIsCount(t *testing.T) {
	for _, s := range append(smallSchemes(), greatSchemes()...) {
		total, _ := serial.Count(s)
		anything := strings.Repeat("?", size(s))
		n, err := serial.Matches(s, anything)
		checkInt(t, "Matches of "+anything, n, err, total, api.OK)
		for _, n := range []int{0, total / 2, total} {
			below, err := serial.Below(s, anything, n)
			checkInt(t, "Below of "+anything, below, err, n, api.OK)
		}
		text, _ := serial.Text(s, total/2)
		match, err := serial.Match(s, anything, total/2)
		checkText(t, "Match of "+anything, match, err, text, api.OK)
	}
}

func TestMasksAreDivided(t *testing.T) {
	r := rand.New(rand.NewPCG(9, 9))
	for _, s := range append(smallSchemes(), greatSchemes()...) {
		total, _ := serial.Count(s)
		text, _ := serial.Text(s, r.IntN(total))
		mask := []byte(text)
		for range size(s)/2 + 1 {
			mask[r.IntN(len(mask))] = '?'
		}
		for i := range mask {
			if mask[i] == '?' {
				checkDivision(t, s, string(mask), i)
			}
		}
	}
}

// checkDivision checks that the masks with each byte of the alphabet at i divide those that match the mask.
func checkDivision(t *testing.T, s api.Scheme, mask string, i int) {
	t.Helper()
	total, _ := serial.Count(s)
	matches, below := 0, 0
	for _, letter := range s.Alphabet {
		part := mask[:i] + string(letter) + mask[i+1:]
		n, err := serial.Matches(s, part)
		matches += n
		m, err2 := serial.Below(s, part, total/3)
		below += m
		if err != api.OK || err2 != api.OK {
			t.Errorf("%v, %s: %d, %d", s, part, err, err2)
		}
	}
	n, err := serial.Matches(s, mask)
	checkInt(t, "Matches of "+mask, n, err, matches, api.OK)
	n, err = serial.Below(s, mask, total/3)
	checkInt(t, "Below of "+mask, n, err, below, api.OK)
}
