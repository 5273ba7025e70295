package works

import (
	"slices"
	"strconv"
	"strings"

	"guilloche/api"
	"guilloche/span"
)

// The words of the lines of a book.
const (
	nowWord     = "now"
	printedWord = "printed"
	pressWord   = "press"
	platesWord  = "plates"
	starsWord   = "stars"
	begunWord   = "begun"
	wetWord     = "wet"
	reamsWord   = "reams"
	rootWord    = "root"
	runWord     = "run"
)

// text returns the book of the works.
func (w *Works) text() string {
	var out strings.Builder
	write := func(word string, numbers ...int) { out.WriteString(lineOf(word, numbers)) }
	write(nowWord, w.now)
	write(printedWord, w.printed)
	write(pressWord, w.lives...)
	write(platesWord, w.plates)
	write(starsWord, w.stars)
	write(begunWord, w.ledger.begun)
	for _, b := range w.drying {
		write(wetWord, b.first, b.end, b.time)
	}
	write(reamsWord, w.stages...)
	for _, root := range w.roots {
		out.WriteString(rootWord + " " + hexOf(root) + "\n")
	}
	runs, _ := w.Map().Runs(0, w.plant.notes(), api.MaxRuns)
	for _, run := range runs {
		write(runWord, run.Lo, run.Hi, run.Tag)
	}
	return out.String()
}

func lineOf(word string, numbers []int) string {
	parts := []string{word}
	for _, n := range numbers {
		parts = append(parts, strconv.Itoa(n))
	}
	return strings.Join(parts, " ") + "\n"
}

const hexDigits = "0123456789abcdef"

// hexOf returns the hash as hexadecimal digits.
func hexOf(h api.Hash) string {
	var out []byte
	for _, b := range h {
		out = append(out, hexDigits[b>>4], hexDigits[b&15])
	}
	return string(out)
}

// readBook returns a works without a journal, with what it finds in the text of a book; and false if there is no map. A line that is missing, wrong or too much shows when the book of this works is written.
func readBook(p plant, text string) (*Works, bool) {
	w := &Works{pressroom: newPressroom(p)}
	r, begun := reader{text}, 0
	r.line(nowWord, &w.now)
	r.line(printedWord, &w.printed)
	r.list(pressWord, w.lives)
	r.line(platesWord, &w.plates)
	r.line(starsWord, &w.stars)
	r.line(begunWord, &begun)
	var b batch
	for r.line(wetWord, &b.first, &b.end, &b.time) {
		w.drying = append(w.drying, b)
	}
	r.list(reamsWord, w.stages)
	var root api.Hash
	for r.root(&root) {
		w.roots = append(w.roots, root)
	}
	var runs []api.Run
	var run api.Run
	for r.line(runWord, &run.Lo, &run.Hi, &run.Tag) {
		runs = append(runs, run)
	}
	m, err := span.From(p.notes(), runs)
	if err != api.OK {
		return nil, false
	}
	w.ledger = newLedger(m, begun)
	return w, true
}

// reader reads the lines of a book.
type reader struct {
	rest string
}

// line reads the next line if it consists of a word and of that many numbers.
func (r *reader) line(word string, numbers ...*int) bool {
	line, rest, ended := strings.Cut(r.rest, "\n")
	parts := strings.SplitN(line, " ", 2+len(numbers))
	if !ended || len(parts) != 1+len(numbers) || parts[0] != word {
		return false
	}
	for i, number := range numbers {
		n, err := strconv.Atoi(parts[1+i])
		if err != nil {
			return false
		}
		*number = n
	}
	r.rest = rest
	return true
}

// list reads the next line if it consists of a word and of as many numbers as the list has.
func (r *reader) list(word string, list []int) bool {
	var numbers []*int
	for i := range list {
		numbers = append(numbers, &list[i])
	}
	return r.line(word, numbers...)
}

// root reads the next line if it is that of an audit.
func (r *reader) root(root *api.Hash) bool {
	line, rest, ended := strings.Cut(r.rest, "\n")
	digits, ok := strings.CutPrefix(line, rootWord+" ")
	if !ended || !ok || len(digits) != 2*len(root) {
		return false
	}
	for i := range root {
		high, low := strings.IndexByte(hexDigits, digits[2*i]), strings.IndexByte(hexDigits, digits[2*i+1])
		if high < 0 || low < 0 {
			return false
		}
		root[i] = byte(high<<4 | low)
	}
	r.rest = rest
	return true
}

// isConsistent reports whether the numbers, the stages and the tags of the works fit together.
func (w *Works) isConsistent() bool {
	return w.hasGoodNumbers() && w.hasGoodBatches() && w.hasGoodTags() &&
		w.isExactly(api.TagBlank, w.plant.notesOn(w.printed, w.plant.Sheets)) && w.isExactly(api.TagWet, w.notesIn(w.drying))
}

func (w *Works) hasGoodNumbers() bool {
	isLife := func(life int) bool { return isFrom(0, life, w.plant.Life) }
	isStage := func(stage int) bool { return isFrom(api.ReamRaw, stage, api.ReamCut) }
	return isFrom(0, w.now, maxCount) && isFrom(0, w.stars, maxCount) && isFrom(0, w.ledger.begun, maxCount) &&
		isFrom(0, w.printed, w.plant.Sheets) && isFrom(0, w.plates, w.plant.Plates) && len(w.roots) <= api.MaxRoots &&
		all(w.lives, isLife) && all(w.stages, isStage)
}

func all(list []int, is func(int) bool) bool {
	return !slices.ContainsFunc(list, func(n int) bool { return !is(n) })
}

func (w *Works) hasGoodBatches() bool {
	first, time := 0, w.now+1
	for _, b := range w.drying {
		if b.first < first || b.end <= b.first || b.end > w.printed || b.time < time || b.time > w.now+w.plant.Dry {
			return false
		}
		first, time = b.end, b.time
	}
	return true
}

// hasGoodTags reports whether the tags of all notes are possible at the stage of their ream.
func (w *Works) hasGoodTags() bool {
	for ream, stage := range w.stages {
		notes := w.plant.notesOf(ream)
		runs, _ := w.Map().Runs(notes.lo, notes.hi, api.MaxRuns)
		for _, run := range runs {
			if run.Tag >= api.TagVault+w.plant.Vaults || !isPossible(run.Tag, stage) {
				return false
			}
		}
	}
	return true
}

// isPossible reports whether a note may have the tag while its ream is at the stage.
func isPossible(tag, stage int) bool {
	switch tag {
	case api.TagBlank, api.TagWet:
		return stage == api.ReamRaw
	case api.TagPrinted:
		return stage != api.ReamCut
	case api.TagSpoiled:
		return true
	}
	return stage == api.ReamCut
}

// isExactly reports whether these notes, and no others, have the tag.
func (w *Works) isExactly(tag int, notes []stretch) bool {
	for _, s := range notes {
		if count, _ := w.Map().Count(s.lo, s.hi, tag); count != s.len() {
			return false
		}
	}
	count, _ := w.Map().Count(0, w.plant.notes(), tag)
	return count == total(notes)
}
