package works_test

import (
	"fmt"
	"math/rand/v2"
	"regexp"
	"slices"
	"strconv"
	"strings"
	"testing"

	"guilloche/api"
	"guilloche/sheet"
	"guilloche/works"
)

// isBook reports whether a text is the book of a consistent works. It examines one note after the other.
func isBook(p api.Plant, text string) bool {
	reams := (p.Sheets + p.Layout.Ream - 1) / p.Layout.Ream
	const n = `(?:0|-?[1-9][0-9]*)`
	form := fmt.Sprintf(`\Anow N\nprinted N\npress(?: N){%d}\nplates N\nstars N\nbegun N\n(?:wet N N N\n)*reams(?: N){%d}\n(?:root [0-9a-f]{64}\n)*(?:run N N N\n)+\z`, p.Presses, reams)
	if !regexp.MustCompile(strings.ReplaceAll(form, "N", n)).MatchString(text) {
		return false
	}
	lists := map[string][][]int{}
	for _, line := range strings.Split(strings.TrimSuffix(text, "\n"), "\n") {
		words := strings.Split(line, " ")
		var list []int
		for _, word := range words[1:] {
			number, err := strconv.Atoi(word)
			if err != nil && words[0] != "root" {
				return false
			}
			list = append(list, number)
		}
		lists[words[0]] = append(lists[words[0]], list)
	}
	one := func(word string) int { return lists[word][0][0] }
	for _, row := range []struct{ number, most int }{{one("now"), 1 << 40}, {one("stars"), 1 << 40}, {one("begun"), 1 << 40}, {one("printed"), p.Sheets}, {one("plates"), p.Plates}, {slices.Min(lists["press"][0]), p.Life}, {slices.Max(lists["press"][0]), p.Life}, {slices.Min(lists["reams"][0]), 3}, {slices.Max(lists["reams"][0]), 3}, {len(lists["root"]), 1024}} {
		if row.number < 0 || row.number > row.most {
			return false
		}
	}
	dryTags, ok := dueTags(p, one("now"), one("printed"), lists["wet"])
	return ok && areGoodRuns(p, dryTags, lists["reams"][0], lists["run"])
}

// dueTags returns the tags of the sheets that are blank or wet, and TagPrinted for the others; and false if the batches are wrong.
func dueTags(p api.Plant, now, printed int, wet [][]int) ([]int, bool) {
	due := slices.Repeat([]int{api.TagPrinted}, p.Sheets)
	for s := printed; s < p.Sheets; s++ {
		due[s] = api.TagBlank
	}
	before := []int{0, 0, now + 1}
	for _, b := range wet {
		if b[0] < before[1] || b[0] >= b[1] || b[1] > printed || b[2] < before[2] || b[2] > now+p.Dry {
			return nil, false
		}
		for s := b[0]; s < b[1]; s++ {
			due[s] = api.TagWet
		}
		before = b
	}
	return due, true
}

func areGoodRuns(p api.Plant, due, stages []int, runs [][]int) bool {
	notes, next, before := p.Sheets*p.Layout.Rows*p.Layout.Cols, 0, -1
	for _, run := range runs {
		if run[0] != next || run[1] <= run[0] || run[1] > notes || run[2] == before || run[2] < 0 || run[2] >= api.TagVault+p.Vaults {
			return false
		}
		next, before = run[1], run[2]
		for note := run[0]; note < run[1]; note++ {
			c, _ := sheet.Cell(p.Layout, p.Sheets, note)
			if !isGoodTag(run[2], due[c.Sheet], stages[c.Sheet/p.Layout.Ream]) {
				return false
			}
		}
	}
	return next == notes && len(runs) <= 4096
}

func isGoodTag(tag, due, stage int) bool {
	if due != api.TagPrinted || tag < api.TagPrinted {
		return tag == due && stage == api.ReamRaw
	}
	good := [][]int{
		api.ReamRaw:      {api.TagPrinted, api.TagSpoiled},
		api.ReamRepaired: {api.TagPrinted, api.TagSpoiled},
		api.ReamPassed:   {api.TagPrinted, api.TagSpoiled},
		api.ReamCut:      {api.TagSpoiled, api.TagIssued, api.TagDestroyed, 6, 7, 8, 9, 10, 11, 12, 13},
	}
	return slices.Contains(good[stage], tag)
}

// checkRead expects that the text is read if it is a book.
func checkRead(t *testing.T, p api.Plant, text string) api.Errno {
	t.Helper()
	want := api.ErrSyntax
	if isBook(p, text) {
		want = api.OK
		if len(text) > api.MaxState || countUnits(text) > (p.Blocks-2)/2 {
			want = api.ErrFull
		}
	}
	w, err := works.Read(p, text)
	if err != want {
		t.Errorf("Read(%q) = %d, not %d", short(text), err, want)
	}
	if (w != nil) != (err == api.OK) || w != nil && w.Book() != text {
		t.Errorf("Read(%q) has the book %q", short(text), short(w.Book()))
	}
	return want
}

// mutant returns a text that differs from a book in a number, in a line, or in a byte.
func mutant(r *rand.Rand, text string) string {
	lines := strings.SplitAfter(strings.TrimSuffix(text, "\n"), "\n")
	i, k := r.IntN(len(lines)), r.IntN(len(lines))
	switch r.IntN(8) {
	case 0:
		lines[i], lines[k] = lines[k], lines[i]
	case 1:
		lines = slices.Delete(lines, i, i+1)
	case 2:
		lines = slices.Insert(lines, k, lines[i])
	case 3:
		at := r.IntN(len(text))
		return text[:at] + string([]byte{" \n0a-+F\x00x"[r.IntN(9)]}) + text[at+r.IntN(2):]
	default:
		words := strings.Fields(lines[i])
		if len(words) < 2 {
			return text + lines[i]
		}
		word := 1 + r.IntN(len(words)-1)
		number, _ := strconv.Atoi(words[word])
		words[word] = strconv.Itoa(number + []int{1, -1, 2, -2, 3, 5, 1 << 40, -1 << 40}[r.IntN(8)])
		lines[i] = strings.Join(words, " ") + "\n"
	}
	return strings.TrimSuffix(strings.Join(lines, ""), "\n") + "\n"
}

func TestReadOfMutants(t *testing.T) {
	counts := map[api.Errno]int{}
	for seed := range uint64(400) {
		p := player{newSource(200 + seed)}
		m := p.model(p.plant())
		counts[checkRead(t, m.plant, m.text())]++
		for range 20 {
			text := mutant(p.Rand, m.text())
			counts[checkRead(t, m.plant, text)]++
			if p.IntN(3) == 0 {
				counts[checkRead(t, m.plant, mutant(p.Rand, text))]++
			}
		}
	}
	if counts[api.OK] < 800 || counts[api.ErrSyntax] < 3000 {
		t.Errorf("there were only %v texts", counts)
	}
}

// bookPlant has one ream of two sheets after another of four.
func bookPlant() api.Plant {
	p := smallPlant()
	p.Layout.Ream, p.Sheets, p.Presses, p.Plates, p.Dry = 4, 6, 2, 5, 3
	return p
}

// goodBook is a book at bookPlant, whose lines can be replaced.
const goodBook = `now 10
printed 6
press 3 10
plates 5
stars 7
begun 100
wet 4 5 12
wet 5 6 13
reams 3 0
root 00112233445566778899aabbccddeeff00112233445566778899aabbccddeeff
root ffffffffffffffffffffffffffffffffffffffffffffffffffffffffffffffff
run 0 4 6
run 4 6 4
run 6 7 3
run 7 8 5
run 8 12 1
`

func TestRead(t *testing.T) {
	p := bookPlant()
	if checkRead(t, p, goodBook) != api.OK {
		t.Fatal("the book is wrong")
	}
	w, _ := works.Read(p, goodBook)
	if w.Now() != 10 || w.Printed() != 6 || w.Press(0) != 3 || w.Press(1) != 10 || w.Plates() != 5 || w.Stars() != 7 || w.Ream(0) != 3 || w.Ream(1) != 0 || len(w.Roots()) != 2 || w.Roots()[0][1] != 0x11 {
		t.Errorf("the works is wrong: %q", w.Book())
	}
	if want := 199 - countUnits(goodBook); w.Room() != want {
		t.Errorf("Room = %d, not %d", w.Room(), want)
	}
	for tx := range 103 {
		if w.Tx(tx) != api.TxUnknown {
			t.Errorf("Tx(%d) = %d", tx, w.Tx(tx))
		}
	}
	if got := w.Say("begin"); got != "begun 101\n" {
		t.Errorf("begin says %q", got)
	}
	if got := w.Say("crash"); got != "recovered 0\n" || w.Book() != goodBook {
		t.Errorf("crash says %q, and the book is %q", got, w.Book())
	}
	if got := w.Say("tick") + w.Say("tick") + w.Say("tick"); got != "dried 4 5\ndried 5 6\n" {
		t.Errorf("tick says %q", got)
	}
}

// Each row replaces a part of the good book.
func TestReadOfParts(t *testing.T) {
	rows := []struct {
		old, new string
		want     api.Errno
	}{
		{"now 10\n", "", 4}, {"now 10", "now 010", 4}, {"now 10", "now +10", 4}, {"now 10", "now  10", 4}, {"now 10", "Now 10", 4}, {"now 10", "now 10 ", 4}, {"now 10", "now", 4}, {"now 10", " now 10", 4}, {"now 10", "now 10\r", 4},
		{"now 10", "now 9", 4}, {"now 10", "now 11", 0}, {"now 10", "now 12", 4}, {"now 10", "now -10", 4}, {"now 10", "now 9223372036854775808", 4}, {"now 10", "now 1_0", 4}, {"now 10", "now 0x10", 4},
		{"printed 6", "printed 5", 4}, {"printed 6", "printed 7", 4}, {"printed 6", "printed -1", 4}, {"printed 6", "printed 9223372036854775807", 4},
		{"press 3 10", "press 3", 4}, {"press 3 10", "press 3 10 1", 4}, {"press 3 10", "press 3 11", 4}, {"press 3 10", "press -1 10", 4}, {"press 3 10", "press 0 0", 0}, {"press 3 10", "press 3  10", 4}, {"press 3 10", "press -0 10", 4},
		{"plates 5", "plates 6", 4}, {"plates 5", "plates -1", 4}, {"plates 5", "plates 0", 0}, {"plates 5\n", "plates 5\nplates 5\n", 4},
		{"stars 7", "stars 1099511627776", 0}, {"stars 7", "stars 1099511627777", 4}, {"stars 7", "stars -1", 4}, {"stars 7", "stars 0", 0},
		{"begun 100", "begun 1099511627776", 0}, {"begun 100", "begun 1099511627777", 4}, {"begun 100", "begun -1", 4}, {"begun 100", "begun 0", 0},
		{"wet 4 5 12\nwet 5 6 13\n", "wet 4 6 12\n", 0}, {"wet 4 5 12\nwet 5 6 13\n", "wet 5 6 13\nwet 4 5 12\n", 4}, {"wet 4 5 12", "wet 4 5 13", 0}, {"wet 4 5 12", "wet 4 5 14", 4}, {"wet 5 6 13", "wet 5 6 11", 4}, {"wet 5 6 13", "wet 5 6 14", 4},
		{"wet 5 6 13", "wet 5 5 13\nwet 5 6 13", 4}, {"wet 5 6 13", "wet 4 6 13", 4}, {"wet 5 6 13\n", "", 4}, {"wet 5 6 13", "wet 5 7 13", 4}, {"wet 4 5 12", "wet 3 5 12", 4}, {"wet 4 5 12", "wet -1 5 12", 4}, {"wet 4 5 12", "wet 4 5", 4}, {"wet 4 5 12", "wet 4 5 12 1", 4}, {"wet 4 5 12", "wet 04 5 12", 4},
		{"reams 3 0", "reams 3", 4}, {"reams 3 0", "reams 3 0 0", 4}, {"reams 3 0", "reams 3 1", 4}, {"reams 3 0", "reams 2 0", 4}, {"reams 3 0", "reams 4 0", 4}, {"reams 3 0", "reams -1 0", 4}, {"reams 3 0", "reams 0 0", 4}, {"reams 3 0", "reams 3 3", 4}, {"reams 3 0\n", "", 4},
		{"root 00", "root 0", 4}, {"root 00", "root 000", 4}, {"root 00", "root 0g", 4}, {"root ffff", "root FFFF", 4}, {"root 00", "root +0", 4}, {"root 00", "root  00", 4}, {"root ffff", "root 0000", 0}, {"root ffff", "run ffff", 4}, {"root 00", "root \x00\xff", 4}, {"root ffff", "rootffff", 4},
		{"run 0 4 6", "run 0 4 7", 0}, {"run 0 4 6", "run 0 4 8", 4}, {"run 0 4 6", "run 0 4 4", 4}, {"run 0 4 6", "run 0 4 2", 4}, {"run 0 4 6", "run 0 4 0", 4}, {"run 0 4 6", "run 0 4 1", 4}, {"run 0 4 6", "run 0 4 16", 4}, {"run 0 4 6", "run 0 4 -1", 4}, {"run 0 4 6", "run 0 4 3", 0}, {"run 0 4 6", "run 0 4 5", 0},
		{"run 0 4 6", "run 0 2 6\nrun 2 4 6", 4}, {"run 0 4 6", "run 1 4 6", 4}, {"run 0 4 6", "run 0 5 6", 4}, {"run 0 4 6", "run 0 0 7\nrun 0 4 6", 4}, {"run 0 4 6\n", "", 4},
		{"run 8 12 1\n", "", 4}, {"run 8 12 1\n", "run 8 11 1\n", 4}, {"run 8 12 1\n", "run 8 13 1\n", 4}, {"run 8 12 1\n", "run 8 12 1", 4}, {"run 8 12 1\n", "run 8 12 1\n\n", 4}, {"run 8 12 1\n", "run 8 12 1\nx", 4}, {"run 8 12 1\n", "run 8 12 0\n", 4}, {"run 8 12 1\n", "run 8 12 2\n", 4}, {"run 8 12 1\n", "run 8 10 1\nrun 10 12 2\n", 4},
		{"wet 4 5 12\nwet 5 6 13\n", "", 4}, {"wet 4 5 12\nwet 5 6 13\nreams 3 0", "reams 3 3", 4}, {"printed 6\npress", "printed 4\npress", 4}, {"\n", " \n", 4}, {"\n", "", 4}, {"\n", "\n\n", 4}, {" ", "\t", 4},
	}
	for _, row := range rows {
		text := strings.Replace(goodBook, row.old, row.new, 1)
		if text == goodBook {
			t.Errorf("%q is no part of the book", row.old)
		}
		if got := checkRead(t, bookPlant(), text); got != row.want {
			t.Errorf("the model reads %q as %d, not %d", text, got, row.want)
		}
	}
	for _, text := range []string{"", "\n", "now", "now 10\n", goodBook + goodBook, strings.ToUpper(goodBook), strings.Repeat("\n", 1000), strings.Repeat("root 1\n", 1000), strings.Repeat(" ", 1<<20), "now " + strings.Repeat("1", 1<<20) + "\n"} {
		if got := checkRead(t, bookPlant(), text); got != api.ErrSyntax {
			t.Errorf("the model reads %q as %d", short(text), got)
		}
	}
}

// A time before the beginning, at a works that is right otherwise.
func TestReadOfTimes(t *testing.T) {
	for _, time := range []int{-1, 0, 1 << 40, 1<<40 + 1} {
		m := newModel(smallPlant())
		m.now = time
		want := api.OK
		if time < 0 || time > 1<<40 {
			want = api.ErrSyntax
		}
		if got := checkRead(t, m.plant, m.text()); got != want {
			t.Errorf("the model reads the time %d as %d", time, got)
		}
	}
}

// A ream that is blank or wet in part may be at its first stage only, and the other stages have the tags of theirs.
func TestReadOfStages(t *testing.T) {
	p := smallPlant()
	p.Layout, p.Sheets, p.Vaults = api.Layout{Rows: 1, Cols: 1, Ream: 2, Bundle: 1}, 2, 8
	for stage := -1; stage <= 4; stage++ {
		for tag := -1; tag <= 16; tag++ {
			for printed := range 3 {
				for _, wet := range []string{"", "wet 0 1 1\n", "wet 1 2 1\n", "wet 0 2 1\n"} {
					for other := range 5 {
						runs := fmt.Sprintf("run 0 1 %d\nrun 1 2 %d\n", tag, other)
						if tag == other {
							runs = fmt.Sprintf("run 0 2 %d\n", tag)
						}
						checkRead(t, p, fmt.Sprintf("now 0\nprinted %d\npress 0\nplates 1\nstars 0\nbegun 0\n%sreams %d\n%s", printed, wet, stage, runs))
					}
				}
			}
		}
	}
}

// Books that have no room on the disk, or in the state of a journal, are ErrFull; but ErrSyntax comes first.
func TestReadOfLongBooks(t *testing.T) {
	p := bookPlant()
	units := countUnits(goodBook)
	for _, more := range []int{0, 1, 2, 3} {
		p.Blocks = 2*units + more
		want := api.ErrFull
		if more >= 2 {
			want = api.OK
		}
		if got := checkRead(t, p, goodBook); got != want {
			t.Errorf("the model reads a book in %d blocks as %d", p.Blocks, got)
		}
		checkRead(t, p, goodBook+"x")
		checkRead(t, p, strings.Replace(goodBook, "10", "9", 1))
	}

	p.Blocks = 4096
	root := "root " + strings.Repeat("0f", 32) + "\n"
	for _, roots := range []int{930, 940, 1024, 1025, 2000} {
		checkRead(t, p, strings.Replace(goodBook, "root ", strings.Repeat(root, roots-2)+"root ", 1))
	}
	if got := checkRead(t, p, strings.Replace(goodBook, "root ", strings.Repeat(root, 1023)+"root ", 1)); got != api.ErrSyntax {
		t.Errorf("the model reads 1025 roots as %d", got)
	}
}

func TestReadOfManyRuns(t *testing.T) {
	for _, runs := range []int{4096, 4097} {
		p := manyRuns(10).plant
		lines := "now 0\nprinted 4096\npress 0 0\nplates 0\nstars 0\nbegun 0\nreams 0\n"
		for note := range runs - 1 {
			lines += fmt.Sprintf("run %d %d %d\n", note, note+1, 2+note%2)
		}
		text := lines + fmt.Sprintf("run %d 8192 %d\n", runs-1, 2+(runs-1)%2)
		want := map[int]api.Errno{4096: api.OK, 4097: api.ErrSyntax}[runs]
		if got := checkRead(t, p, text); got != want {
			t.Errorf("the model reads %d runs as %d", runs, got)
		}
	}
}
