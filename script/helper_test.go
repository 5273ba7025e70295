package script_test

import (
	"math"
	"math/big"
	"math/rand/v2"
	"regexp"
	"slices"
	"strconv"
	"strings"
	"testing"

	"guilloche/api"
	"guilloche/script"
)

func newSource(seed uint64) *rand.Rand { return rand.New(rand.NewPCG(10, seed)) }

// numeralForm is the form of a number text, apart from the range of int.
const numeralForm = `(?:0|-?[1-9][0-9]*)`

// tokenForm is the form of a token.
const tokenForm = `[!-~]{1,64}`

// fit reports whether all parts that look like numbers are ints.
func fit(parts []string) bool {
	for _, part := range parts {
		if n, ok := new(big.Int).SetString(part, 10); !ok || !n.IsInt64() {
			return false
		}
	}
	return true
}

// oddNumbers are numbers at the ends of their ranges.
func oddNumbers() []int {
	return []int{0, 1, -1, 9, 10, -10, 1000, api.MaxValue, -api.MaxValue, api.MaxValue + 1, -api.MaxValue - 1, math.MaxInt, math.MinInt}
}

// badNumerals are texts that are not number texts.
func badNumerals() []string {
	return []string{"", "-", "+1", "-0", "+0", "00", "01", "-01", "1.", "1.0", "1e3", "0x1", "1_0", " 1", "a", "--1", "1-", "9223372036854775808", "-9223372036854775809", "99999999999999999999", "\u0661", "1\n", "1\r", "1\x00", strings.Repeat("1", 5000)}
}

// mutants returns texts that differ from this one in a byte or in its length.
func mutants(text string) []string {
	out := []string{text + text, text + " ", " " + text, text + "\n", "\n" + text, text + " 0", text + " x", strings.ToUpper(text), strings.ReplaceAll(text, " ", "  "), strings.ReplaceAll(text, " ", "\t")}
	for i := range len(text) {
		out = append(out, text[:i], text[i:], text[:i]+text[i+1:])
		for _, sign := range []byte(" \n\t-+019a#\x00\x7f\x80\xff") {
			out = append(out, text[:i]+string([]byte{sign})+text[i:], text[:i]+string([]byte{sign})+text[i+1:])
		}
	}
	return out
}

func sameAct(a, b api.Act) bool {
	return a.Kind == b.Kind && a.A == b.A && a.B == b.B && a.C == b.C && a.D == b.D && a.E == b.E && slices.Equal(a.Keep, b.Keep)
}

func checkEval(t *testing.T, expr string, names []string, values []int, want int, wantErr api.Errno) {
	t.Helper()
	if got, err := script.Eval(expr, names, values); got != want || err != wantErr {
		t.Errorf("Eval(%q, %q, %v) = %d, %d; not %d, %d", short(expr), names, values, got, err, want, wantErr)
	}
}

// checkCompile expects acts by their lines.
func checkCompile(t *testing.T, text string, want []string, wantLine int, wantErr api.Errno) {
	t.Helper()
	acts, line, err := script.Compile(text)
	if got := linesOf(acts); !slices.Equal(got, want) || line != wantLine || err != wantErr {
		t.Errorf("Compile(%q) = %s, %d, %d; not %s, %d, %d", short(text), short(strings.Join(got, "; ")), line, err, short(strings.Join(want, "; ")), wantLine, wantErr)
	}
}

// linesOf returns the lines of acts, computed from the chapter's table. (Fields that are not used are shown if they are not 0.)
func linesOf(acts []api.Act) []string {
	var out []string
	for _, a := range acts {
		parts, fields := []string{strconv.Itoa(a.Kind)}, 0
		if a.Kind >= 1 && a.Kind <= len(actTable) {
			parts[0], fields = actTable[a.Kind-1].word, actTable[a.Kind-1].fields
		}
		for i, n := range []int{a.A, a.B, a.C, a.D, a.E} {
			if i < fields || n != 0 {
				parts = append(parts, strconv.Itoa(n))
			}
		}
		for _, n := range a.Keep {
			parts = append(parts, strconv.Itoa(n))
		}
		out = append(out, strings.Join(parts, " "))
	}
	return out
}

func short(text string) string {
	if len(text) > 400 {
		return text[:200] + " ... " + text[len(text)-200:]
	}
	return text
}

func repeat(text string, count int) string { return strings.Repeat(text, count) }

// actTable is the chapter's table of acts.
var actTable = []struct {
	word   string
	fields int
}{
	{"mount", 1}, {"print", 2}, {"tick", 0}, {"spoil", 2}, {"repair", 2}, {"inspect", 4}, {"cut", 1}, {"begin", 0}, {"look", 3},
	{"move", 5}, {"commit", 1}, {"abort", 1}, {"destroy", 4}, {"audit", 3}, {"save", 0}, {"check", 0}, {"crash", 0},
}

// eventTable is the chapter's table of events.
var eventTable = []struct {
	word   string
	fields int
	text   bool
}{
	{"mounted", 2, false}, {"printed", 3, false}, {"dried", 2, false}, {"spoiled", 1, false}, {"reprinted", 1, false}, {"replaced", 2, false}, {"opened", 1, false},
	{"repaired", 2, false}, {"inspected", 3, false}, {"cut", 3, false}, {"begun", 1, false}, {"run", 3, false}, {"looked", 3, false}, {"moved", 3, false},
	{"refused", 1, false}, {"waits", 1, false}, {"granted", 1, false}, {"committed", 2, false}, {"aborted", 1, false}, {"destroyed", 2, false},
	{"drawn", 1, true}, {"audited", 2, true}, {"saved", 1, false}, {"checked", 1, false}, {"recovered", 1, false},
}

// actForm is the form of the lines of acts.
var actForm = whole(func() string {
	var forms []string
	for _, row := range actTable {
		count := "{" + strconv.Itoa(row.fields) + "}"
		if row.word == "crash" {
			count = "{0,16}"
		}
		forms = append(forms, row.word+"(?: "+numeralForm+")"+count)
	}
	return strings.Join(forms, "|")
})

// eventForm is the form of the lines of events.
var eventForm = whole(func() string {
	var forms []string
	for _, row := range eventTable {
		form := row.word + "(?: " + numeralForm + "){" + strconv.Itoa(row.fields) + "}"
		if row.text {
			form += " " + tokenForm
		}
		forms = append(forms, form)
	}
	return strings.Join(forms, "|")
})

func whole(form func() string) *regexp.Regexp { return regexp.MustCompile(`\A(?:` + form() + `)\z`) }
