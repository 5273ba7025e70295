package script

import (
	"strings"

	"guilloche/api"
)

// Compile returns the acts that a script yields, or the line that is wrong.
func Compile(text string) (acts []api.Act, line int, err api.Errno) {
	if len(text) > api.MaxScript {
		return nil, 0, api.ErrFull
	}
	defer func() {
		if f, ok := recover().(fault); ok {
			acts, line, err = nil, f.line, f.err
		}
	}()
	r := reader{lines: linesOf(text)}
	x := runner{machine: machine{values: map[string]int{}}}
	x.run(r.readScript())
	return x.acts, 0, api.OK
}

func linesOf(text string) []string {
	lines := strings.Split(text, "\n")
	last := len(lines) - 1
	if lines[last] == "" {
		return lines[:last]
	}
	return lines
}

func wordsOf(line string) []string {
	return strings.FieldsFunc(line, func(sign rune) bool { return sign == ' ' })
}

// statement is a line that is executed, together with the lines up to its end.
type statement struct {
	line    int
	execute func(*runner)
}

type expression []item

// reader reads the lines of a script.
type reader struct {
	lines []string
	line  int // the position of the line that is read, or the number of lines plus 1 after the last one
	open  int // loops and choices
}

func (r *reader) demand(holds bool) { demand(holds, r.line, api.ErrSyntax) }

func (r *reader) readScript() []statement {
	list, ending := r.readBlock()
	r.demand(ending == "")
	return list
}

// next returns the words of the next line that is not ignored, or none after the last one.
func (r *reader) next() []string {
	for r.line < len(r.lines) {
		r.line++
		words := wordsOf(r.lines[r.line-1])
		if len(words) > 0 && words[0][0] != '#' {
			return words
		}
	}
	r.line = len(r.lines) + 1
	return nil
}

// readBlock reads statements and the line that ends them, and returns its word: end, else, or nothing if the script ends.
func (r *reader) readBlock() ([]statement, string) {
	var list []statement
	for {
		words := r.next()
		if len(words) == 0 {
			return list, ""
		}
		if words[0] == "end" || words[0] == "else" {
			r.demand(len(words) == 1)
			return list, words[0]
		}
		s := statement{line: r.line}
		s.execute = r.readStatement(words)
		list = append(list, s)
	}
}

// readStatement reads the statement that begins with the line of these words, and returns its effect.
func (r *reader) readStatement(words []string) func(*runner) {
	switch words[0] {
	case "let":
		return r.readLet(words)
	case "for":
		return r.readLoop(words)
	case "if":
		return r.readChoice(words)
	}
	return r.readAct(words)
}

func (r *reader) readLet(words []string) func(*runner) {
	r.demand(len(words) == 3 && isName(words[1]))
	name, value := words[1], r.readExpression(words[2])
	return func(x *runner) { x.assign(name, x.evaluate(value)) }
}

func (r *reader) readLoop(words []string) func(*runner) {
	r.demand(len(words) == 4 && isName(words[1]))
	line, name := r.line, words[1]
	first, last := r.readExpression(words[2]), r.readExpression(words[3])
	r.begin()
	body, ending := r.readBlock()
	r.end(ending)
	return func(x *runner) {
		value, end := x.evaluate(first), x.evaluate(last)
		for ; value <= end; value++ {
			x.step(line)
			x.assign(name, value)
			x.run(body)
		}
	}
}

func (r *reader) readChoice(words []string) func(*runner) {
	r.demand(len(words) == 2)
	condition := r.readExpression(words[1])
	r.begin()
	body, ending := r.readBlock()
	var other []statement
	if ending == "else" {
		other, ending = r.readBlock()
	}
	r.end(ending)
	return func(x *runner) {
		if x.evaluate(condition) != 0 {
			x.run(body)
		} else {
			x.run(other)
		}
	}
}

// begin begins a loop or a choice.
func (r *reader) begin() {
	r.open++
	r.demand(r.open <= api.MaxDepth)
}

// end ends a loop or a choice with the word that was found at its end.
func (r *reader) end(word string) {
	r.demand(word == "end")
	r.open--
}

func (r *reader) readAct(words []string) func(*runner) {
	kind, known := findAct(words[0])
	r.demand(known && takes(kind, len(words)-1))
	var fields []expression
	for _, word := range words[1:] {
		fields = append(fields, r.readExpression(word))
	}
	return func(x *runner) {
		var numbers []int
		for _, field := range fields {
			numbers = append(numbers, x.evaluate(field))
		}
		x.yield(newAct(kind, numbers))
	}
}

func (r *reader) readExpression(word string) expression {
	var items expression
	parse(word, r.line, func(i item) { items = append(items, i) })
	return items
}

// runner executes statements.
type runner struct {
	machine
	steps int
	acts  []api.Act
}

func (x *runner) run(list []statement) {
	for _, s := range list {
		x.step(s.line)
		s.execute(x)
	}
}

// step begins a step of a line.
func (x *runner) step(line int) {
	x.line = line
	x.steps++
	demand(x.steps <= api.MaxSteps, line, api.ErrFull)
}

func (x *runner) evaluate(e expression) int {
	for _, i := range e {
		x.do(i)
	}
	return x.pop()
}

func (x *runner) assign(name string, value int) { x.values[name] = value }

func (x *runner) yield(a api.Act) {
	demand(len(x.acts) < api.MaxActs, x.line, api.ErrFull)
	x.acts = append(x.acts, a)
}
