package serial_test

import (
	"math/rand/v2"
	"slices"
	"testing"

	"guilloche/api"
	"guilloche/serial"
)

func TestNear(t *testing.T) {
	r := rand.New(rand.NewPCG(6, 6))
	for _, s := range smallSchemes() {
		list := serialsOf(s)
		texts := []string{list[0], list[len(list)-1]}
		for range 40 {
			texts = append(texts, randomText(r, s.Alphabet, size(s)))
		}
		for _, text := range texts {
			var want []string
			for _, other := range list {
				if distance(text, other) == 1 {
					want = append(want, other)
				}
			}
			got, err := serial.Near(s, text)
			if !slices.Equal(got, want) || err != api.OK {
				t.Errorf("Near(%v, %s) = %v, %d; not %v", s, text, got, err, want)
			}
		}
	}
}

func TestNearExamples(t *testing.T) {
	for _, c := range []struct {
		scheme api.Scheme
		text   string
		want   []string
	}{
		{api.Scheme{Alphabet: "01", Length: 3, Banned: []string{"11"}}, "111", []string{"101"}},
		{api.Scheme{Alphabet: "01", Length: 3, Banned: []string{"11"}}, "000", []string{"001", "010", "100"}},
		{api.Scheme{Alphabet: "10", Length: 2}, "10", []string{"11", "00"}},
		{api.Scheme{Alphabet: "CAB", Length: 2}, "AA", []string{"CA", "AC", "AB", "BA"}},
		{api.Scheme{Alphabet: digits, Length: 4, Check: true}, "07945", nil},
	} {
		got, err := serial.Near(c.scheme, c.text)
		if !slices.Equal(got, c.want) || err != api.OK {
			t.Errorf("Near(%v, %s) = %v, %d; not %v", c.scheme, c.text, got, err, c.want)
		}
	}
	// Only the check character is wrong: the position of the error may be that one, too.
	got, err := serial.Near(api.Scheme{Alphabet: digits, Length: 4, Check: true}, "07946")
	if !slices.Contains(got, "07945") || err != api.OK {
		t.Errorf("Near of 07946 = %v, %d", got, err)
	}
}

func TestNearErrors(t *testing.T) {
	s := api.Scheme{Alphabet: "01", Length: 3, Banned: []string{"11"}, Check: true}
	for _, text := range append(malformed(4), "000?", "????", "000", "00000") {
		got, err := serial.Near(s, text)
		if len(got) != 0 || err != api.ErrSyntax {
			t.Errorf("Near of %.20q = %v, %d", text, got, err)
		}
	}
}

func TestNearOfGreatSchemes(t *testing.T) {
	r := rand.New(rand.NewPCG(7, 7))
	for _, s := range greatSchemes() {
		for range 5 {
			checkGreatNear(t, s, randomText(r, s.Alphabet, size(s)))
		}
	}
}

func checkGreatNear(t *testing.T, s api.Scheme, text string) {
	t.Helper()
	got, err := serial.Near(s, text)
	if err != api.OK {
		t.Errorf("Near(%v, %s) = %d", s, text, err)
	}
	want := 0
	for i := range len(text) {
		for _, letter := range s.Alphabet {
			near := text[:i] + string(letter) + text[i+1:]
			body := near[:s.Length]
			if near != text && isAllowed(s, body) && near == body+checkOf(s, body) {
				want++
				if !slices.Contains(got, near) {
					t.Errorf("Near(%v, %s) is without %s", s, text, near)
				}
			}
		}
	}
	if len(got) != want {
		t.Errorf("Near(%v, %s) has %d serials, not %d", s, text, len(got), want)
	}
	before := -1
	for _, near := range got {
		n, _ := serial.Number(s, near)
		if n <= before {
			t.Errorf("Near(%v, %s) is not ascending at %s", s, text, near)
		}
		before = n
	}
}
