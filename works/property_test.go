package works_test

import (
	"slices"
	"strings"
	"testing"

	"guilloche/api"
	"guilloche/script"
	"guilloche/works"
)

// A works says what the model says, whatever the acts are; and what is refused changes nothing.
func TestRandomActs(t *testing.T) {
	counts := map[string]int{}
	for seed := range uint64(500) {
		p := player{newSource(seed)}
		b := newBench(t, p.plant())
		if seed%4 > 0 {
			b = readBench(t, p.model(p.plant()))
		}
		safety := 10 + p.IntN(50)
		for range 120 {
			line := p.line(b.m)
			if p.IntN(safety) == 0 {
				line = p.safetyLine()
			}
			before := b.m.tags()
			for _, event := range strings.Split(b.say(line), "\n") {
				word, _, _ := strings.Cut(event, " ")
				counts[word]++
			}
			if !strings.HasPrefix(line, "crash") {
				b.checkTags(before, line)
			}
			if p.IntN(20) == 0 {
				b.readAgain()
			}
		}
	}
	for kind := api.EvMounted; kind <= api.EvRecovered; kind++ {
		word := wordOf(kind)
		if counts[word] < 10 {
			t.Errorf("there were only %d events %s", counts[word], word)
		}
	}
}

// checkTags expects that each note has one tag, which may have followed from its tag before an act.
func (b *bench) checkTags(before []int, line string) {
	b.t.Helper()
	count := 0
	for tag := range api.MaxTags {
		n, _ := b.w.Map().Count(0, b.w.Map().Size(), tag)
		count += n
	}
	if count != len(before) {
		b.t.Fatalf("after %q: there are %d notes, not %d", line, count, len(before))
	}
	isPlace := func(tag int) bool { return tag == api.TagIssued || tag >= api.TagVault }
	for note, old := range before {
		tag, _ := b.w.Map().Get(note)
		next := map[int][]int{
			api.TagBlank: {api.TagWet, api.TagPrinted}, api.TagWet: {api.TagPrinted},
			api.TagPrinted: {api.TagSpoiled, api.TagVault}, api.TagSpoiled: {api.TagPrinted, api.TagDestroyed},
		}[old]
		if tag != old && !slices.Contains(next, tag) && !(isPlace(old) && isPlace(tag)) {
			b.t.Fatalf("after %q: the note %d has the tag %d after %d", line, note, tag, old)
		}
	}
}

// wordOf returns the word of a kind of events.
func wordOf(kind int) string {
	for _, text := range []string{"", "x"} {
		line, _ := script.EventText(api.Event{Kind: kind, Text: text})
		if word, _, _ := strings.Cut(line, " "); word != "" {
			return word
		}
	}
	return ""
}

// readAgain expects that the book of the works is read as the same.
func (b *bench) readAgain() {
	b.t.Helper()
	text := b.w.Book()
	again, err := works.Read(b.m.plant, text)
	if countUnits(text) > (b.m.plant.Blocks-2)/2 {
		checkError(b.t, "Read of a long book", err, api.ErrFull)
		return
	}
	if err != api.OK || again.Book() != text {
		b.t.Fatalf("Read(%q) = %q, %d", short(text), short(again.Book()), err)
	}
}
