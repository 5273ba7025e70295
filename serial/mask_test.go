package serial_test

import (
	"math"
	"math/rand/v2"
	"strings"
	"testing"

	"guilloche/api"
	"guilloche/serial"
)

// masksOf returns all masks of the scheme, or some if they are many.
func masksOf(s api.Scheme) []string {
	letters := s.Alphabet + "?"
	n := size(s)
	count := 1
	for range n {
		count *= len(letters)
	}
	if count <= 100 {
		return serialsOf(api.Scheme{Alphabet: letters, Length: n})
	}
	r := rand.New(rand.NewPCG(4, 4))
	out := []string{strings.Repeat("?", n)}
	for range 60 {
		mask := []byte(randomText(r, s.Alphabet, n))
		for i := range mask {
			if r.IntN(3) > 0 {
				mask[i] = '?'
			}
		}
		out = append(out, string(mask))
	}
	return out
}

func TestMasks(t *testing.T) {
	for _, s := range smallSchemes() {
		list := serialsOf(s)
		for _, mask := range masksOf(s) {
			checkMask(t, s, mask, list)
		}
	}
}

func checkMask(t *testing.T, s api.Scheme, mask string, list []string) {
	t.Helper()
	// All numbers where they are few, and about a hundred of them otherwise.
	step := 1 + len(list)/100
	var matching []string
	for n, text := range list {
		if n%step == 0 {
			below, err := serial.Below(s, mask, n)
			checkInt(t, "Below of "+mask, below, err, len(matching), api.OK)
		}
		if matchesMask(text, mask) {
			matching = append(matching, text)
		}
	}
	below, err := serial.Below(s, mask, len(list))
	checkInt(t, "Below of "+mask, below, err, len(matching), api.OK)
	count, err := serial.Matches(s, mask)
	checkInt(t, "Matches of "+mask, count, err, len(matching), api.OK)
	for k, want := range matching {
		if k%step == 0 || k == len(matching)-1 {
			got, err := serial.Match(s, mask, k)
			checkText(t, "Match of "+mask, got, err, want, api.OK)
		}
	}
	for _, k := range []int{-1, len(matching), math.MinInt, math.MaxInt} {
		got, err := serial.Match(s, mask, k)
		checkText(t, "Match of "+mask, got, err, "", api.ErrRange)
	}
	for _, n := range []int{-1, len(list) + 1, math.MinInt, math.MaxInt} {
		below, err := serial.Below(s, mask, n)
		checkInt(t, "Below of "+mask, below, err, 0, api.ErrRange)
	}
}

func TestMaskErrors(t *testing.T) {
	s := api.Scheme{Alphabet: "01", Length: 3, Banned: []string{"11"}, Check: true}
	for _, mask := range append(malformed(4), "???", "?????", "???*", "??0x", "??\u0130", "\u0131??", "??\u043f", "???\xbf") {
		for _, k := range []int{-1, 0, 100} { // ErrSyntax comes before ErrRange
			n, err := serial.Matches(s, mask)
			checkInt(t, "Matches of "+mask, n, err, 0, api.ErrSyntax)
			text, err := serial.Match(s, mask, k)
			checkText(t, "Match of "+mask, text, err, "", api.ErrSyntax)
			n, err = serial.Below(s, mask, k)
			checkInt(t, "Below of "+mask, n, err, 0, api.ErrSyntax)
		}
	}
	// Without a check character, a mask is one byte shorter.
	s.Check = false
	n, err := serial.Matches(s, "????")
	checkInt(t, "Matches of ????", n, err, 0, api.ErrSyntax)
	n, err = serial.Matches(s, "???")
	checkInt(t, "Matches of ???", n, err, 5, api.OK)
}

func TestMasksWithBannedParts(t *testing.T) {
	s := api.Scheme{Alphabet: "01", Length: 3, Banned: []string{"11"}}
	for _, mask := range []string{"11?", "?11", "110", "111"} {
		n, err := serial.Matches(s, mask)
		checkInt(t, "Matches of "+mask, n, err, 0, api.OK)
		text, err := serial.Match(s, mask, 0)
		checkText(t, "Match of "+mask, text, err, "", api.ErrRange)
		n, err = serial.Below(s, mask, 5)
		checkInt(t, "Below of "+mask, n, err, 0, api.OK)
	}
}

func TestMaskExamples(t *testing.T) {
	s := api.Scheme{Alphabet: digits, Length: 2, Check: true}
	for _, mask := range []string{"1??", "??5"} {
		n, err := serial.Matches(s, mask)
		checkInt(t, "Matches of "+mask, n, err, 10, api.OK)
	}
}

func TestMasksOfGreatSchemes(t *testing.T) {
	// Each check character belongs to equally many of all bodies.
	s := api.Scheme{Alphabet: digits, Length: 12, Check: true}
	n, err := serial.Matches(s, "????????????7")
	checkInt(t, "Matches", n, err, 100_000_000_000, api.OK)
	n, err = serial.Matches(s, "1?????0?????7")
	checkInt(t, "Matches", n, err, 1_000_000_000, api.OK)
	n, err = serial.Below(s, "1????????????", 150_000_000_000)
	checkInt(t, "Below", n, err, 50_000_000_000, api.OK)

	r := rand.New(rand.NewPCG(5, 5))
	for _, s := range greatSchemes() {
		for range 3 {
			checkGreatMask(t, r, s)
		}
	}
}

// checkGreatMask checks a random mask that several serials match.
func checkGreatMask(t *testing.T, r *rand.Rand, s api.Scheme) {
	t.Helper()
	total, _ := serial.Count(s)
	text, _ := serial.Text(s, r.IntN(total))
	mask := []byte(text)
	for i := range mask {
		if r.IntN(2) == 0 {
			mask[i] = '?'
		}
	}
	count, err := serial.Matches(s, string(mask))
	if count < 1 || err != api.OK {
		t.Errorf("Matches(%v, %s) = %d, %d", s, mask, count, err)
		return
	}
	k := r.IntN(count)
	got, err := serial.Match(s, string(mask), k)
	if err != api.OK || !matchesMask(got, string(mask)) {
		t.Errorf("Match(%v, %s, %d) = %s, %d", s, mask, k, got, err)
		return
	}
	n, err := serial.Number(s, got)
	if err != api.OK {
		t.Errorf("Number(%v, %s) = %d", s, got, err)
	}
	below, err := serial.Below(s, string(mask), n)
	checkInt(t, "Below", below, err, k, api.OK)
	below, err = serial.Below(s, string(mask), n+1)
	checkInt(t, "Below", below, err, k+1, api.OK)
}
