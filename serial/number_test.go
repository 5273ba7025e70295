package serial_test

import (
	"math"
	"math/rand/v2"
	"slices"
	"strings"
	"testing"

	"guilloche/api"
	"guilloche/serial"
)

func TestTextAndNumber(t *testing.T) {
	for _, s := range smallSchemes() {
		list := serialsOf(s)
		for n, want := range list {
			got, err := serial.Text(s, n)
			checkText(t, "Text", got, err, want, api.OK)
			back, err := serial.Number(s, want)
			checkInt(t, "Number of "+want, back, err, n, api.OK)
		}
		for _, n := range []int{-1, len(list), len(list) + 1, math.MinInt, math.MaxInt, api.MaxPieces} {
			got, err := serial.Text(s, n)
			checkText(t, "Text", got, err, "", api.ErrRange)
		}
	}
}

func TestNumberOfAllTexts(t *testing.T) {
	for _, s := range smallSchemes() {
		list := serialsOf(s)
		texts := serialsOf(api.Scheme{Alphabet: s.Alphabet, Length: size(s)})
		if len(texts) > 2000 {
			continue
		}
		for _, text := range texts {
			n, want := slices.Index(list, text), api.OK
			switch {
			case !isAllowed(s, text[:s.Length]):
				n, want = 0, api.ErrBanned
			case n < 0:
				n, want = 0, api.ErrCheck
			}
			got, err := serial.Number(s, text)
			checkInt(t, "Number of "+text, got, err, n, want)
		}
	}
}

// malformed returns texts that are no text of n bytes of 0 and 1.
func malformed(n int) []string {
	zeros := strings.Repeat("0", n)
	out := []string{"", zeros[1:], zeros + "0", strings.Repeat("0", 1<<16), zeros[1:] + "2", "2" + zeros[1:], zeros[1:] + "a", zeros[1:] + "\x00", zeros[1:] + "\xb0", "\x80" + zeros[1:], " " + zeros[1:]}
	if n >= 2 {
		// The low byte of the rune is that of a 0 or a 1.
		out = append(out, zeros[2:]+"\u0130", "\u0131"+zeros[2:], zeros[2:]+"\u0430")
	}
	return out
}

func TestNumberErrors(t *testing.T) {
	s := api.Scheme{Alphabet: "01", Length: 3, Banned: []string{"11"}, Check: true}
	for _, text := range append(malformed(4), "000?", "????", "11?0", "112", "1102") {
		n, err := serial.Number(s, text)
		checkInt(t, "Number of "+text, n, err, 0, api.ErrSyntax)
	}
	for _, text := range []string{"1100", "1101", "0110", "0111", "1110", "1111"} {
		n, err := serial.Number(s, text)
		checkInt(t, "Number of "+text, n, err, 0, api.ErrBanned)
	}
	for _, body := range []string{"000", "001", "010", "100", "101"} {
		wrong := "1"
		if checkOf(s, body) == "1" {
			wrong = "0"
		}
		n, err := serial.Number(s, body+wrong)
		checkInt(t, "Number of "+body+wrong, n, err, 0, api.ErrCheck)
	}
}

// A banned string may be completed by the check character, which is no part of the body.
func TestCheckCharacterIsNotBanned(t *testing.T) {
	s := api.Scheme{Alphabet: "01", Length: 2, Banned: []string{"000", "001", "010", "011", "100", "101", "110", "111"}, Check: true}
	n, err := serial.Count(s)
	checkInt(t, "Count", n, err, 4, api.OK)
	for i, text := range serialsOf(s) {
		n, err := serial.Number(s, text)
		checkInt(t, "Number of "+text, n, err, i, api.OK)
	}
}

func TestComplete(t *testing.T) {
	for _, s := range smallSchemes() {
		for _, body := range serialsOf(api.Scheme{Alphabet: s.Alphabet, Length: s.Length}) {
			got, err := serial.Complete(s, body)
			if isAllowed(s, body) {
				checkText(t, "Complete", got, err, body+checkOf(s, body), api.OK)
			} else {
				checkText(t, "Complete", got, err, "", api.ErrBanned)
			}
		}
	}
	for _, check := range []bool{false, true} {
		s := api.Scheme{Alphabet: "01", Length: 3, Banned: []string{"11"}, Check: check}
		for _, body := range append(malformed(3), "00?", "???", "11", "0010", "11a", "11\x80") {
			got, err := serial.Complete(s, body)
			checkText(t, "Complete("+body+")", got, err, "", api.ErrSyntax)
		}
	}
}

func TestNumberExamples(t *testing.T) {
	s := api.Scheme{Alphabet: "01", Length: 3, Banned: []string{"11"}}
	for n, want := range []string{"000", "001", "010", "100", "101"} {
		got, err := serial.Text(s, n)
		checkText(t, "Text", got, err, want, api.OK)
	}
	n, err := serial.Number(s, "101")
	checkInt(t, "Number of 101", n, err, 4, api.OK)

	s = api.Scheme{Alphabet: digits, Length: 4, Check: true}
	got, err := serial.Complete(s, "0794")
	checkText(t, "Complete(0794)", got, err, "07945", api.OK)
	n, err = serial.Number(s, "07945")
	checkInt(t, "Number of 07945", n, err, 794, api.OK)
	n, err = serial.Number(s, "07946")
	checkInt(t, "Number of 07946", n, err, 0, api.ErrCheck)
}

// greatSchemes returns valid schemes with many serials.
func greatSchemes() []api.Scheme {
	return []api.Scheme{
		{Alphabet: alphabet[:32], Length: 8, Check: true},
		{Alphabet: alphabet, Length: 7, Banned: []string{"SEX", "ASS", "666", "0O", "O0", "SS"}, Check: true},
		{Alphabet: "9876543210", Length: 12, Banned: []string{"4", "13", "666", "12345678", "2345", "99999999"}, Check: true},
		{Alphabet: "TGCA", Length: 16, Banned: []string{"TTTTTTTT", "GCGC", "CGCG", "AAAA", "TATATATA"}, Check: true},
		{Alphabet: "ABCDEFGHIJK", Length: 11, Banned: []string{"ABABABAB", "BABA", "KK", "JJJ"}},
	}
}

func TestTextAndNumberOfGreatSchemes(t *testing.T) {
	r := rand.New(rand.NewPCG(3, 3))
	for _, s := range greatSchemes() {
		total, err := serial.Count(s)
		if err != api.OK {
			t.Fatalf("Count(%v) = %d", s, err)
		}
		for i := range 20 {
			n := r.IntN(total)
			if i < 2 {
				n = i * (total - 1)
			}
			text, err := serial.Text(s, n)
			body := text[:s.Length]
			if err != api.OK || !isAllowed(s, body) || text != body+checkOf(s, body) {
				t.Errorf("Text(%v, %d) = %s, %d", s, n, text, err)
			}
			back, err := serial.Number(s, text)
			checkInt(t, "Number of "+text, back, err, n, api.OK)
			checkAscending(t, s, n)
		}
	}
}

// checkAscending checks the serials with the numbers n and n - 1, and that no allowed body lies between them.
func checkAscending(t *testing.T, s api.Scheme, n int) {
	t.Helper()
	if n == 0 {
		return
	}
	low, _ := serial.Text(s, n-1)
	high, _ := serial.Text(s, n)
	next := low[:s.Length]
	for range 10000 {
		next = after(s.Alphabet, next)
		if isAllowed(s, next) {
			break
		}
	}
	if isAllowed(s, next) && next != high[:s.Length] {
		t.Errorf("%v: %s is followed by %s, not by %s", s, low, high, next)
	}
}

// after returns the body that follows, allowed or not.
func after(letters, body string) string {
	last := len(body) - 1
	v := strings.IndexByte(letters, body[last])
	if v < len(letters)-1 {
		return body[:last] + letters[v+1:v+2]
	}
	return after(letters, body[:last]) + letters[:1]
}
