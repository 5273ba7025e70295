package serial_test

import (
	"math/rand/v2"
	"strings"
	"testing"

	"guilloche/api"
	"guilloche/serial"
)

const (
	digits   = "0123456789"
	alphabet = digits + "ABCDEFGHIJKLMNOPQRSTUVWXYZ"
)

// The tests compute what they expect by a search through all bodies.

// serialsOf returns all serials in ascending order.
func serialsOf(s api.Scheme) []string {
	bodies := []string{""}
	for range s.Length {
		var longer []string
		for _, body := range bodies {
			for i := range len(s.Alphabet) {
				longer = append(longer, body+s.Alphabet[i:i+1])
			}
		}
		bodies = longer
	}
	var out []string
	for _, body := range bodies {
		if isAllowed(s, body) {
			out = append(out, body+checkOf(s, body))
		}
	}
	return out
}

func isAllowed(s api.Scheme, body string) bool {
	for _, ban := range s.Banned {
		if strings.Contains(body, ban) {
			return false
		}
	}
	return true
}

// checkOf returns the check character, or nothing if the scheme has none.
func checkOf(s api.Scheme, body string) string {
	if !s.Check {
		return ""
	}
	m := len(s.Alphabet)
	p := m
	for i := range len(body) {
		rest := (p + strings.IndexByte(s.Alphabet, body[i])) % m
		if rest == 0 {
			rest = m
		}
		p = 2 * rest % (m + 1)
	}
	for c := range m {
		if (p+c)%m == 1 {
			return s.Alphabet[c : c+1]
		}
	}
	return "no check character"
}

func matchesMask(text, mask string) bool {
	for i := range len(mask) {
		if mask[i] != '?' && mask[i] != text[i] {
			return false
		}
	}
	return true
}

// distance returns at how many positions the texts differ.
func distance(a, b string) int {
	n := 0
	for i := range len(a) {
		if a[i] != b[i] {
			n++
		}
	}
	return n
}

func size(s api.Scheme) int {
	if s.Check {
		return s.Length + 1
	}
	return s.Length
}

// smallSchemes returns valid schemes whose bodies can all be visited.
func smallSchemes() []api.Scheme {
	out := []api.Scheme{
		{Alphabet: "01", Length: 1},
		{Alphabet: "01", Length: 1, Check: true},
		{Alphabet: "01", Length: 3, Banned: []string{"11"}},
		{Alphabet: "10", Length: 4, Banned: []string{"101"}},
		{Alphabet: "01", Length: 5, Banned: []string{"0"}, Check: true},
		{Alphabet: "01", Length: 10, Banned: []string{"0110", "110", "01010", "11111111", "00000000"}},
		{Alphabet: "ZYX", Length: 4, Banned: []string{"XZ", "YYZ", "XZ"}},
		{Alphabet: "B0A9", Length: 4, Banned: []string{"0A", "A0B", "99"}, Check: true},
		{Alphabet: "ABC", Length: 2, Banned: []string{"AAAAAAAA", "ABC"}},
		{Alphabet: "012345", Length: 3, Banned: []string{"13", "55"}, Check: true},
		{Alphabet: alphabet, Length: 2, Banned: []string{"O", "I", "AB"}, Check: true},
	}
	r := rand.New(rand.NewPCG(2, 2))
	for range 40 {
		if s := randomScheme(r); serial.Check(s) == api.OK {
			out = append(out, s)
		}
	}
	return out
}

func randomScheme(r *rand.Rand) api.Scheme {
	letters := []byte(alphabet)
	r.Shuffle(len(letters), func(i, k int) { letters[i], letters[k] = letters[k], letters[i] })
	s := api.Scheme{Alphabet: string(letters[:2+r.IntN(4)]), Length: 1 + r.IntN(4)}
	s.Check = len(s.Alphabet)%2 == 0 && r.IntN(2) == 0
	if len(s.Alphabet) == 2 {
		s.Length += r.IntN(5)
	}
	for range r.IntN(5) {
		s.Banned = append(s.Banned, randomText(r, s.Alphabet, 1+r.IntN(5)))
	}
	return s
}

func randomText(r *rand.Rand, letters string, n int) string {
	var out strings.Builder
	for range n {
		out.WriteByte(letters[r.IntN(len(letters))])
	}
	return out.String()
}

func checkInt(t *testing.T, call string, got int, err api.Errno, want int, wantErr api.Errno) {
	t.Helper()
	if got != want || err != wantErr {
		t.Errorf("%s = %d, %d; not %d, %d", call, got, err, want, wantErr)
	}
}

func checkText(t *testing.T, call string, got string, err api.Errno, want string, wantErr api.Errno) {
	t.Helper()
	if got != want || err != wantErr {
		t.Errorf("%s = %q, %d; not %q, %d", call, got, err, want, wantErr)
	}
}
