package script_test

import (
	"math/rand/v2"
	"strconv"
	"strings"
	"testing"

	"guilloche/api"
	"guilloche/script"
)

// randomNumber returns a number that is small, or at an end of its range.
func randomNumber(r *rand.Rand) int {
	if r.IntN(3) == 0 {
		return oddNumbers()[r.IntN(len(oddNumbers()))]
	}
	return r.IntN(41) - 20
}

func randomAct(r *rand.Rand) api.Act {
	kind := 1 + r.IntN(len(actTable))
	a := api.Act{Kind: kind}
	for _, field := range []*int{&a.A, &a.B, &a.C, &a.D, &a.E}[:actTable[kind-1].fields] {
		*field = randomNumber(r)
	}
	if kind == api.ActCrash {
		for range r.IntN(17) {
			a.Keep = append(a.Keep, randomNumber(r))
		}
	}
	return a
}

func TestActsAreRecovered(t *testing.T) {
	r := newSource(3)
	for range 5000 {
		a := randomAct(r)
		line, err := script.Text(a)
		if err != api.OK {
			t.Fatalf("Text(%v) = %d", a, err)
		}
		checkParse(t, line, a, api.OK)
	}
}

func TestEventsAreRecovered(t *testing.T) {
	r := newSource(4)
	for range 5000 {
		token := goodTokens()[r.IntN(len(goodTokens()))]
		v, want := event(1+r.IntN(len(eventTable)), [3]int{randomNumber(r), randomNumber(r), randomNumber(r)}, token)
		checkEventLine(t, v, want)
	}
}

func TestPlantsAreRecovered(t *testing.T) {
	r := newSource(5)
	for range 2000 {
		p := somePlant()
		numbers, _ := numbersOf(&p)
		for _, number := range numbers {
			*number = randomNumber(r)
		}
		p.Scheme.Alphabet = goodTokens()[r.IntN(len(goodTokens()))]
		p.Scheme.Check, p.Layout.Down = r.IntN(2) == 0, r.IntN(2) == 0
		p.Scheme.Banned = goodTokens()[:r.IntN(len(goodTokens()))]
		text, err := script.PlantText(p)
		if err != api.OK {
			t.Fatalf("PlantText(%v) = %d", p, err)
		}
		checkParsePlant(t, text, p, 0, api.OK)
	}
}

// The line of an act whose numbers are in the range of the language compiles to this act, and no other line does.
func TestLinesOfActsCompile(t *testing.T) {
	r := newSource(6)
	compiled := 0
	for range 5000 {
		a := randomAct(r)
		line, _ := script.Text(a)
		inRange := true
		for _, n := range append([]int{a.A, a.B, a.C, a.D, a.E}, a.Keep...) {
			inRange = inRange && n >= -api.MaxValue && n <= api.MaxValue
		}
		acts, at, err := script.Compile(line)
		if !inRange && (err != api.ErrSyntax || at != 1 || len(acts) != 0) || inRange && (err != api.OK || at != 0 || len(acts) != 1 || !sameAct(acts[0], a)) {
			t.Errorf("Compile(%q) = %v, %d, %d", line, acts, at, err)
		}
		if inRange {
			compiled++
		}
	}
	if compiled < 1000 {
		t.Errorf("only %d lines are in the range", compiled)
	}
}

// Unrolling a loop does not change the acts.
func TestUnrolledLoops(t *testing.T) {
	body := []string{"let n n*3+i", "if n%2=0", "print n i", "else", "for k i i+2", "look i k n", "let n n-k", "end", "end", "crash i n"}
	for first := -3; first <= 3; first++ {
		for last := first - 2; last <= first+5; last++ {
			loop := "let n 1\n" + "for i " + strconv.Itoa(first) + " " + strconv.Itoa(last) + "\n" + lines(body...) + "end\nmount n\n"
			flat := "let n 1\n"
			for i := first; i <= last; i++ {
				flat += "let i " + strconv.Itoa(i) + "\n" + lines(body...)
			}
			acts, line, err := script.Compile(loop)
			if line != 0 || err != api.OK || len(acts) < 1+last-first+1 {
				t.Errorf("Compile(%q) = %v, %d, %d", loop, acts, line, err)
			}
			checkActs(t, flat+"mount n\n", linesOf(acts)...)
		}
	}
}

// writer writes random scripts.
type writer struct {
	*rand.Rand
	lines []string
}

func (w *writer) pick(list ...string) string { return list[w.IntN(len(list))] }

func (w *writer) name() string { return w.pick("a", "b", "i", "k", "n", "long") }

func (w *writer) expr() string {
	switch w.IntN(8) {
	case 0:
		return randomTree(w.Rand, 2).print(0, func() bool { return false })
	case 1:
		return w.name() + w.pick("+", "-", "*", "<", "=", "&", "%", "/") + w.name()
	case 2:
		return w.name()
	}
	return w.pick("0", "1", "2", "3", "-1", "1+1", "(2)", "7%3")
}

// block writes statements in loops and choices that are open already.
func (w *writer) block(depth int) {
	for range 1 + w.IntN(4) {
		w.statement(depth)
	}
}

func (w *writer) statement(depth int) {
	kind := w.IntN(10)
	if depth > 4 && kind < 4 {
		kind = 9
	}
	switch {
	case kind < 2:
		w.lines = append(w.lines, "for "+w.name()+" "+w.pick("0", "1", "a", "-2")+" "+w.pick("2", "3", "0", "b", "n%9", "99999"))
		w.block(depth + 1)
		w.lines = append(w.lines, "end")
	case kind < 4:
		w.lines = append(w.lines, "if "+w.expr())
		w.block(depth + 1)
		if w.IntN(2) == 0 {
			w.lines = append(w.lines, "else")
			w.block(depth + 1)
		}
		w.lines = append(w.lines, "end")
	case kind < 7:
		w.lines = append(w.lines, "let "+w.name()+" "+w.expr())
	case kind < 8:
		w.lines = append(w.lines, w.pick("", "  ", "# note", "#"))
	default:
		row := actTable[w.IntN(len(actTable))]
		line := row.word
		for range row.fields {
			line += w.pick(" ", " ", "  ") + w.expr()
		}
		w.lines = append(w.lines, line)
	}
}

// spoil changes, omits or adds a line.
func (w *writer) spoil() {
	at := w.IntN(len(w.lines))
	switch w.IntN(4) {
	case 0:
		w.lines = append(w.lines[:at], w.lines[at+1:]...)
	case 1:
		w.lines = append(w.lines[:at+1], w.lines[at:]...)
	case 2:
		w.lines[at] = w.pick("end", "else", "if 1", "for i 1 2", "let", "mount", "tick 1", "print 1 +", "if 1/0", "let a 01", "mount x", "end end", "#end")
	default:
		line := w.lines[at]
		cut := w.IntN(len(line) + 1)
		w.lines[at] = line[:cut] + w.pick("", " ", "+", "1", "x", "(", ")") + line[cut:]
	}
}

// Random scripts, right and wrong ones, are compiled as a model says that executes them line by line.
func TestRandomScripts(t *testing.T) {
	counts := map[api.Errno]int{}
	for seed := range uint64(2000) {
		w := &writer{Rand: newSource(1000 + seed)}
		for _, name := range []string{"a", "b", "i", "k", "n", "long"} {
			if w.IntN(20) > 0 {
				w.lines = append(w.lines, "let "+name+" "+strconv.Itoa(w.IntN(5)))
			}
		}
		w.block(0)
		w.block(0)
		if w.IntN(4) == 0 && len(w.lines) > 1 {
			w.spoil()
		}
		text := strings.Join(w.lines, "\n") + w.pick("", "\n", "\n\n")
		acts, line, err := runModel(text)
		checkCompile(t, text, acts, line, err)
		counts[err]++
	}
	t.Log(counts)
	if counts[api.OK] < 200 || counts[api.ErrSyntax] < 100 || counts[api.ErrName] < 100 || counts[api.ErrValue] < 100 || counts[api.ErrFull] < 50 {
		t.Errorf("too few scripts of a kind: %v", counts)
	}
}

// Every function accepts all bytes.
func FuzzAll(f *testing.F) {
	for _, seed := range []string{"", someText, "print 0 25", "audited 1 2 x", "for i 1 3\nif i%2=1\nmount i-1\nend\nend\n", "-(1+a)*2|b<3&7/2"} {
		f.Add(seed)
	}
	f.Fuzz(func(t *testing.T, text string) {
		if a, err := script.Parse(text); err == api.OK {
			checkText(t, a, text, api.OK)
		}
		if v, err := script.ParseEvent(text); err == api.OK {
			checkEventText(t, v, text, api.OK)
		}
		if p, _, err := script.ParsePlant(text); err == api.OK {
			checkPlantText(t, p, text, api.OK)
		}
		if len(text) < 30 && strings.Count(text, "(") <= api.MaxDepth {
			want, wantErr := expected(text, map[string]int{"a": 3, "b": 4})
			checkEval(t, text, []string{"a", "b"}, []int{3, 4}, want, wantErr)
		}
		acts, line, err := runModel(text)
		checkCompile(t, text, acts, line, err)
	})
}
