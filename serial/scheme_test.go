package serial_test

import (
	"math"
	"slices"
	"strings"
	"testing"

	"guilloche/api"
	"guilloche/serial"
)

func TestCheckOfWellFormedSchemes(t *testing.T) {
	sixteen := slices.Repeat([]string{"00"}, api.MaxBanned)
	for _, s := range []api.Scheme{
		{Alphabet: "01", Length: 1},
		{Alphabet: "Z9", Length: api.MaxLength, Check: true},
		{Alphabet: alphabet, Length: 1, Check: true},
		{Alphabet: alphabet[:35], Length: 1},
		{Alphabet: "01", Length: 1, Banned: []string{}},
		{Alphabet: "01", Length: 16, Banned: []string{"01010101"}},
		{Alphabet: "01", Length: 2, Banned: []string{"01010101"}},
		{Alphabet: "01", Length: 3, Banned: sixteen},
		{Alphabet: "01", Length: 3, Banned: []string{"0"}},
	} {
		if err := serial.Check(s); err != api.OK {
			t.Errorf("Check(%v) = %d", s, err)
		}
	}
}

// illFormed returns schemes that are not well-formed.
func illFormed() []api.Scheme {
	out := []api.Scheme{
		{},
		{Alphabet: "01"},
		{Length: 3},
		{Alphabet: "01", Length: api.MaxLength + 1},
		{Alphabet: "01", Length: -1},
		{Alphabet: "01", Length: math.MinInt},
		{Alphabet: "01", Length: math.MaxInt},
		{Alphabet: "01", Length: 3, Banned: slices.Repeat([]string{"11"}, api.MaxBanned+1)},
		{Alphabet: "01", Length: 3, Banned: make([]string, 1<<16)},
		{Alphabet: "012", Length: 3, Check: true},
		{Alphabet: alphabet[:35], Length: 1, Check: true},
		{Alphabet: alphabet[:35], Length: 16, Check: true}, // has too many serials as well
	}
	for _, letters := range []string{"0", "00", "010", "0a", "a0", "0?", "0 ", "0/", "0:", "0@", "0[", "0\x00", "0\x80", "\xff0", "0٣", "0İ", "A\u0141", alphabet + "A", alphabet + "a", strings.Repeat("A", 1<<16)} {
		out = append(out, api.Scheme{Alphabet: letters, Length: 2})
	}
	for _, ban := range []string{"", "2", "02", "20", "?", "0?", "010101010", "\x80", "\xff0", "\u0130", "\u0131", "0\u0130", strings.Repeat("0", 1<<16)} {
		out = append(out, api.Scheme{Alphabet: "01", Length: 3, Banned: []string{"11", ban}})
	}
	return out
}

// tooFewOrMany returns well-formed schemes that are not valid.
func tooFewOrMany() []api.Scheme {
	all := []string{"0", "1"}
	return []api.Scheme{
		{Alphabet: "01", Length: 1, Banned: all},
		{Alphabet: "01", Length: 16, Banned: all, Check: true},
		{Alphabet: "01", Length: 2, Banned: []string{"00", "01", "10", "11"}},
		{Alphabet: "01", Length: 3, Banned: []string{"00", "01", "11"}},
		{Alphabet: "01", Length: 8, Banned: []string{"00", "11", "01010101", "10101010"}},
		{Alphabet: alphabet[:33], Length: 8},
		{Alphabet: alphabet[:32], Length: 9},
		{Alphabet: alphabet, Length: 8, Check: true},
		{Alphabet: alphabet, Length: 8, Banned: []string{"ABCDEFGH"}},
		{Alphabet: alphabet, Length: 16},
		{Alphabet: alphabet, Length: 16, Banned: []string{"00000000", "ZZZZZZZZ"}, Check: true},
		{Alphabet: alphabet[:16], Length: 16}, // 2^64
		{Alphabet: alphabet[:32], Length: 16}, // 2^80
		{Alphabet: alphabet[:32], Length: 13}, // 2^65
		{Alphabet: alphabet[:16], Length: 11},
		// A multiple of 2^64, and 826022068289 more, which would be few enough.
		{Alphabet: alphabet[:32], Length: 16, Banned: strings.Fields("A00 B00000 C00000 D00000 E00000 F00000 G00000 H0000000")},
	}
}

func TestCheckErrors(t *testing.T) {
	for _, s := range illFormed() {
		if err := serial.Check(s); err != api.ErrScheme {
			t.Errorf("Check(%.80v) = %d", s, err)
		}
	}
	for _, s := range tooFewOrMany() {
		if err := serial.Check(s); err != api.ErrRange {
			t.Errorf("Check(%v) = %d", s, err)
		}
	}
}

// Every function returns the error of the scheme before its own ones, and nothing with it.
func TestSchemeErrorsComeFirst(t *testing.T) {
	for want, list := range map[api.Errno][]api.Scheme{api.ErrScheme: illFormed(), api.ErrRange: tooFewOrMany()} {
		for _, s := range list {
			for _, text := range []string{"", "000", "x", strings.Repeat("?", 17)} {
				checkAllErrors(t, s, text, want)
			}
		}
	}
}

func checkAllErrors(t *testing.T, s api.Scheme, text string, want api.Errno) {
	t.Helper()
	n, err := serial.Count(s)
	checkInt(t, "Count", n, err, 0, want)
	got, err := serial.Text(s, -1)
	checkText(t, "Text", got, err, "", want)
	n, err = serial.Number(s, text)
	checkInt(t, "Number", n, err, 0, want)
	got, err = serial.Complete(s, text)
	checkText(t, "Complete", got, err, "", want)
	n, err = serial.Matches(s, text)
	checkInt(t, "Matches", n, err, 0, want)
	got, err = serial.Match(s, text, -1)
	checkText(t, "Match", got, err, "", want)
	n, err = serial.Below(s, text, -1)
	checkInt(t, "Below", n, err, 0, want)
	list, err := serial.Near(s, text)
	checkInt(t, "the length of Near", len(list), err, 0, want)
}

func TestCount(t *testing.T) {
	for _, s := range smallSchemes() {
		n, err := serial.Count(s)
		checkInt(t, "Count", n, err, len(serialsOf(s)), api.OK)
	}
}

func TestCountOfGreatSchemes(t *testing.T) {
	for _, c := range []struct {
		scheme api.Scheme
		want   int
	}{
		{api.Scheme{Alphabet: alphabet[:32], Length: 8}, api.MaxPieces},
		{api.Scheme{Alphabet: alphabet[:32], Length: 8, Check: true}, api.MaxPieces},
		{api.Scheme{Alphabet: alphabet[:16], Length: 10}, api.MaxPieces},
		{api.Scheme{Alphabet: alphabet[:32], Length: 8, Banned: []string{"AAAAAAAA"}}, api.MaxPieces - 1},
		{api.Scheme{Alphabet: alphabet[:33], Length: 8, Banned: []string{"W"}}, api.MaxPieces},
		{api.Scheme{Alphabet: digits, Length: 12, Check: true}, 1_000_000_000_000},
		{api.Scheme{Alphabet: digits, Length: 12, Banned: []string{"00", "00"}}, withoutPair(10, 12)},
		{api.Scheme{Alphabet: "01", Length: 16, Banned: []string{"11"}}, withoutPair(2, 16)},
		{api.Scheme{Alphabet: alphabet, Length: 7, Banned: []string{"AA"}}, withoutPair(36, 7)},
		{api.Scheme{Alphabet: alphabet[:17], Length: 16, Banned: strings.Split("0123456789ABCDE", "")}, 1 << 16},
	} {
		n, err := serial.Count(c.scheme)
		checkInt(t, "Count", n, err, c.want, api.OK)
	}
}

// withoutPair returns the number of strings of length n over m letters in which one certain letter never follows itself.
func withoutPair(m, n int) int {
	other, letter := m-1, 1
	for range n - 1 {
		other, letter = (m-1)*(other+letter), other
	}
	return other + letter
}

func TestSchemeIsNotChanged(t *testing.T) {
	s := api.Scheme{Alphabet: "BA01", Length: 3, Banned: []string{"BB", "A1", "0"}, Check: true}
	banned := slices.Clone(s.Banned)
	_, _ = serial.Text(s, 3)
	_, _ = serial.Near(s, "BA1B")
	_, _ = serial.Match(s, "?A?1", 0)
	if !slices.Equal(s.Banned, banned) {
		t.Errorf("the banned strings became %v", s.Banned)
	}
}
