package works_test

import (
	"encoding/hex"
	"fmt"
	"math/rand/v2"
	"slices"
	"strings"
	"testing"

	"guilloche/api"
	"guilloche/span"
	"guilloche/works"
)

func newSource(seed uint64) *rand.Rand { return rand.New(rand.NewPCG(11, seed)) }

// smallPlant is the plant of the chapter's example, with a journal that is large enough.
func smallPlant() api.Plant {
	return api.Plant{
		Scheme: api.Scheme{Alphabet: "0123456789", Length: 4, Banned: []string{"13"}, Check: true},
		Layout: api.Layout{Rows: 1, Cols: 2, Ream: 2, Bundle: 2},
		Costs:  api.Costs{Reprint: 3, Star: 2, Open: 1},
		Sheets: 4, Presses: 1, Life: 10, Plates: 1, Dry: 1, Vaults: 2, Blocks: 400,
	}
}

// bench is a works, and the model that knows what it must say.
type bench struct {
	t *testing.T
	w *works.Works
	m *model
}

func newBench(t *testing.T, p api.Plant) *bench {
	t.Helper()
	w, err := works.New(p)
	if err != api.OK {
		t.Fatalf("New(%v) = %d", p, err)
	}
	b := &bench{t, w, newModel(p)}
	b.compare("New")
	return b
}

// readBench begins with the state of a model.
func readBench(t *testing.T, m *model) *bench {
	t.Helper()
	w, err := works.Read(m.plant, m.text())
	if err != api.OK {
		t.Fatalf("Read(%q) = %d", short(m.text()), err)
	}
	m.state, m.stateText = m.copy(), m.text()
	b := &bench{t, w, m}
	b.compare("Read")
	return b
}

// say lets the works and the model perform the acts of lines, compares them, and returns what they said last.
func (b *bench) say(lines ...string) string {
	b.t.Helper()
	said := ""
	for _, line := range lines {
		said = b.m.say(line)
		if got := b.w.Say(line); got != said {
			b.t.Fatalf("Say(%q) = %q, not %q", line, short(got), short(said))
		}
		b.compare(line)
	}
	return said
}

// sayQuickly is like say, but compares only what was said, and the rest at the end.
func (b *bench) sayQuickly(lines ...string) {
	b.t.Helper()
	for _, line := range lines {
		want := b.m.say(line)
		if got := b.w.Say(line); got != want {
			b.t.Fatalf("Say(%q) = %q, not %q", line, short(got), short(want))
		}
	}
	b.compare("many lines")
}

// expect is like say for one line, and expects the words that it yields as well, separated by commas.
func (b *bench) expect(line, want string) {
	b.t.Helper()
	if got := b.m.say(line); strings.ReplaceAll(strings.TrimSuffix(got, "\n"), "\n", ", ") != want {
		b.t.Fatalf("the model says %q to %q, not %q", short(got), line, want)
	}
	got := b.w.Say(line)
	if strings.ReplaceAll(strings.TrimSuffix(got, "\n"), "\n", ", ") != want {
		b.t.Fatalf("Say(%q) = %q, not %q", line, short(got), want)
	}
	b.compare(line)
}

// refuse expects an error.
func (b *bench) refuse(err api.Errno, lines ...string) {
	b.t.Helper()
	for _, line := range lines {
		b.expect(line, fmt.Sprintf("error %d", err))
	}
}

// compare compares all that the works returns.
func (b *bench) compare(after string) {
	b.t.Helper()
	w, m := b.w, b.m
	if got, want := w.Book(), m.text(); got != want {
		b.t.Fatalf("after %q: Book = %q, not %q", after, short(got), short(want))
	}
	got := []int{w.Now(), w.Printed(), w.Plates(), w.Stars(), w.Room()}
	want := []int{m.now, m.printed, m.plates, m.stars, m.room()}
	for i := range m.lives {
		got, want = append(got, w.Press(i)), append(want, m.lives[i])
	}
	for i := range m.stages {
		got, want = append(got, w.Ream(i)), append(want, m.stages[i])
	}
	for tx := max(0, m.before-2); tx <= m.begun+2; tx++ {
		got, want = append(got, w.Tx(tx)), append(want, m.tx(tx))
	}
	if !slices.Equal(got, want) {
		b.t.Fatalf("after %q: the numbers are %v, not %v", after, got, want)
	}
	if !span.Equal(w.Map(), m.book.Now()) {
		b.t.Fatalf("after %q: Map differs", after)
	}
	var roots []string
	for _, root := range w.Roots() {
		roots = append(roots, hex.EncodeToString(root[:]))
	}
	if !slices.Equal(roots, m.roots) {
		b.t.Fatalf("after %q: Roots = %v, not %v", after, roots, m.roots)
	}
}

// repeated returns the line that many times.
func repeated(line string, count int) []string { return slices.Repeat([]string{line}, count) }

// numbered returns that many lines, with a number in each of them that begins with first.
func numbered(form string, first, count int) []string {
	var out []string
	for i := range count {
		out = append(out, fmt.Sprintf(strings.ReplaceAll(form, "%d", "%[1]d"), first+i))
	}
	return out
}

func short(text string) string {
	if len(text) > 1000 {
		return text[:500] + " ... " + text[len(text)-500:]
	}
	return text
}

func checkError(t *testing.T, what string, got, want api.Errno) {
	t.Helper()
	if got != want {
		t.Errorf("%s = %d, not %d", what, got, want)
	}
}
