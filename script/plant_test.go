package script_test

import (
	"reflect"
	"slices"
	"strconv"
	"strings"
	"testing"

	"guilloche/api"
	"guilloche/script"
)

// somePlant is a plant whose numbers are all different.
func somePlant() api.Plant {
	return api.Plant{
		Scheme: api.Scheme{Alphabet: "01X", Length: 4, Banned: []string{"11", "0X0"}, Check: true},
		Layout: api.Layout{Rows: 5, Cols: 6, Ream: 7, Bundle: 8, Down: true},
		Costs:  api.Costs{Reprint: 9, Star: 10, Open: 11},
		Sheets: 12, Presses: 13, Life: 14, Plates: 15, Dry: 16, Vaults: 17, Blocks: 18,
	}
}

const someText = "alphabet 01X\nlength 4\nbanned 11 0X0\ncheck 1\nlayout 5 6 7 8 1\ncosts 9 10 11\nsheets 12\npresses 13\nlife 14\nplates 15\ndry 16\nvaults 17\nblocks 18\n"

func checkPlantText(t *testing.T, p api.Plant, want string, wantErr api.Errno) {
	t.Helper()
	if got, err := script.PlantText(p); got != want || err != wantErr {
		t.Errorf("PlantText(%v) = %q, %d; not %q, %d", p, short(got), err, short(want), wantErr)
	}
}

func checkParsePlant(t *testing.T, text string, want api.Plant, wantLine int, wantErr api.Errno) {
	t.Helper()
	got, line, err := script.ParsePlant(text)
	if !samePlant(got, want) || line != wantLine || err != wantErr {
		t.Errorf("ParsePlant(%q) = %v, %d, %d; not %v, %d, %d", short(text), got, line, err, want, wantLine, wantErr)
	}
}

func samePlant(a, b api.Plant) bool {
	same := slices.Equal(a.Scheme.Banned, b.Scheme.Banned)
	a.Scheme.Banned, b.Scheme.Banned = nil, nil
	return same && reflect.DeepEqual(a, b)
}

// withoutEnds returns the texts that do not end a line.
func withoutEnds(texts []string) []string {
	return slices.DeleteFunc(texts, func(text string) bool { return strings.Contains(text, "\n") })
}

func checkPlant(t *testing.T, p api.Plant, text string) {
	t.Helper()
	checkPlantText(t, p, text, api.OK)
	checkParsePlant(t, text, p, 0, api.OK)
}

func TestPlants(t *testing.T) {
	checkPlant(t, somePlant(), someText)
	p := somePlant()
	p.Scheme.Check, p.Layout.Down, p.Scheme.Banned = false, false, nil
	checkPlant(t, p, "alphabet 01X\nlength 4\nbanned\ncheck 0\nlayout 5 6 7 8 0\ncosts 9 10 11\nsheets 12\npresses 13\nlife 14\nplates 15\ndry 16\nvaults 17\nblocks 18\n")
	p.Scheme.Banned = []string{}
	checkPlantText(t, p, strings.Replace(strings.Replace(strings.Replace(someText, " 11 0X0", "", 1), "check 1", "check 0", 1), "8 1\n", "8 0\n", 1), api.OK)
	checkPlant(t, api.Plant{Scheme: api.Scheme{Alphabet: "x"}}, "alphabet x\nlength 0\nbanned\ncheck 0\nlayout 0 0 0 0 0\ncosts 0 0 0\nsheets 0\npresses 0\nlife 0\nplates 0\ndry 0\nvaults 0\nblocks 0\n")
}

// numbersOf returns where a plant has its numbers, in the order of its text, and the lines of these.
func numbersOf(p *api.Plant) ([]*int, []int) {
	numbers := []*int{&p.Scheme.Length, &p.Layout.Rows, &p.Layout.Cols, &p.Layout.Ream, &p.Layout.Bundle, &p.Costs.Reprint, &p.Costs.Star, &p.Costs.Open, &p.Sheets, &p.Presses, &p.Life, &p.Plates, &p.Dry, &p.Vaults, &p.Blocks}
	return numbers, []int{2, 5, 5, 5, 5, 6, 6, 6, 7, 8, 9, 10, 11, 12, 13}
}

func TestNumbersOfPlants(t *testing.T) {
	unchanged := somePlant()
	values, lines := numbersOf(&unchanged)
	for at, line := range lines {
		old := " " + strconv.Itoa(*values[at])
		rows := strings.SplitAfter(someText, "\n")
		change := func(part string) string {
			changed := slices.Clone(rows)
			changed[line-1] = strings.Replace(changed[line-1], old, part, 1)
			return strings.Join(changed, "")
		}
		for _, n := range oddNumbers() {
			p := somePlant()
			numbers, _ := numbersOf(&p)
			*numbers[at] = n
			checkPlant(t, p, change(" "+strconv.Itoa(n)))
		}
		for _, bad := range withoutEnds(badNumerals()) {
			checkParsePlant(t, change(" "+bad), api.Plant{}, line, api.ErrSyntax)
		}
		checkParsePlant(t, change(""), api.Plant{}, line, api.ErrSyntax)
		checkParsePlant(t, change(old+old), api.Plant{}, line, api.ErrSyntax)
		checkParsePlant(t, change(" "+old), api.Plant{}, line, api.ErrSyntax)
	}
}

func TestTruthOfPlants(t *testing.T) {
	for _, bad := range append(withoutEnds(badNumerals()), "2", "-1", "10", "true", "t") {
		checkParsePlant(t, strings.Replace(someText, "check 1", "check "+bad, 1), api.Plant{}, 4, api.ErrSyntax)
		checkParsePlant(t, strings.Replace(someText, "7 8 1", "7 8 "+bad, 1), api.Plant{}, 5, api.ErrSyntax)
	}
}

func TestTokensOfPlants(t *testing.T) {
	for _, token := range goodTokens() {
		p := somePlant()
		p.Scheme.Alphabet = token
		checkPlant(t, p, strings.Replace(someText, "01X", token, 1))
		p = somePlant()
		p.Scheme.Banned = []string{"11", token, token}
		checkPlant(t, p, strings.Replace(someText, "11 0X0", "11 "+token+" "+token, 1))
	}
	for _, token := range badTokens() {
		p := somePlant()
		p.Scheme.Alphabet = token
		checkPlantText(t, p, "", api.ErrArg)
		for at := range 2 {
			p = somePlant()
			p.Scheme.Banned[at] = token
			checkPlantText(t, p, "", api.ErrArg)
		}
	}
	for _, bad := range withoutEnds(badTokens()) {
		checkParsePlant(t, strings.Replace(someText, "01X", bad, 1), api.Plant{}, 1, api.ErrSyntax)
		if bad == "a b" {
			continue
		}
		checkParsePlant(t, strings.Replace(someText, " 0X0", " "+bad, 1), api.Plant{}, 3, api.ErrSyntax)
		checkParsePlant(t, strings.Replace(someText, " 11", " "+bad, 1), api.Plant{}, 3, api.ErrSyntax)
	}
	checkPlantText(t, api.Plant{}, "", api.ErrArg)
	p := somePlant()
	p.Scheme.Banned = slices.Repeat([]string{"ban"}, 3000)
	checkPlant(t, p, strings.Replace(someText, " 11 0X0", repeat(" ban", 3000), 1))
}

func TestWrongLinesOfPlants(t *testing.T) {
	rows := strings.SplitAfter(someText, "\n")[:13]
	for i := range rows {
		upTo, after := strings.Join(rows[:i], ""), strings.Join(rows[i+1:], "")
		checkParsePlant(t, upTo, api.Plant{}, i+1, api.ErrSyntax)
		row := strings.TrimSuffix(rows[i], "\n")
		checkParsePlant(t, upTo+row, api.Plant{}, i+1, api.ErrSyntax)
		checkParsePlant(t, upTo+after, api.Plant{}, i+1, api.ErrSyntax)
		word, parts, _ := strings.Cut(row, " ")
		for _, bad := range []string{"", " ", word, "x" + row, row + "x ", " " + row, row + " ", row + "\r", word + "  " + parts, word + "\t" + parts, strings.ToUpper(word) + " " + parts, "\n" + row, word[1:] + " " + parts, "sheet " + parts, " " + parts} {
			if row != bad && !(i == 2 && bad == "banned") {
				checkParsePlant(t, upTo+bad+"\n"+after, api.Plant{}, i+1, api.ErrSyntax)
			}
		}
		if i > 0 {
			checkParsePlant(t, strings.Join(rows[:i-1], "")+rows[i]+rows[i-1]+after, api.Plant{}, i, api.ErrSyntax)
		}
	}
	for _, more := range []string{"\n", " ", "x", "x\n", "blocks 18\n", "\n\n", someText} {
		checkParsePlant(t, someText+more, api.Plant{}, 14, api.ErrSyntax)
	}
	checkParsePlant(t, "", api.Plant{}, 1, api.ErrSyntax)
	checkParsePlant(t, "\n"+someText, api.Plant{}, 1, api.ErrSyntax)
	// The first wrong line counts, whatever the later ones are.
	checkParsePlant(t, strings.ReplaceAll(strings.ReplaceAll(someText, "length 4", "length 04"), "dry 16", "dry"), api.Plant{}, 2, api.ErrSyntax)
}

// Whatever is parsed is the text of the result.
func TestChangedPlants(t *testing.T) {
	accepted := 0
	for _, text := range mutants(someText) {
		p, line, err := script.ParsePlant(text)
		if err != api.OK && (err != api.ErrSyntax || line < 1 || line > 14 || !samePlant(p, api.Plant{})) || err == api.OK && line != 0 {
			t.Errorf("ParsePlant(%q) = %v, %d, %d", text, p, line, err)
		}
		if err == api.OK {
			accepted++
			checkPlantText(t, p, text, api.OK)
		}
	}
	if accepted < 100 {
		t.Errorf("only %d changed texts are texts", accepted)
	}
}

func TestPlantsShareNoMemory(t *testing.T) {
	p := somePlant()
	banned := p.Scheme.Banned
	script.PlantText(p)
	if !slices.Equal(banned, []string{"11", "0X0"}) {
		t.Errorf("PlantText changed its argument: %q", banned)
	}
	first, _, _ := script.ParsePlant(someText)
	first.Scheme.Banned[0] = "changed"
	checkParsePlant(t, someText, somePlant(), 0, api.OK)
}
