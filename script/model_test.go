package script_test

import (
	"slices"
	"strings"

	"guilloche/api"
	"guilloche/script"
)

// model executes a script line by line, with jumps to lines, and with Eval for its expressions.
type model struct {
	rows   [][]string  // the words of each line that is not ignored
	jumps  map[int]int // from a for, if or else to its else or end, and from an end to its for
	names  []string
	values []int
	acts   []api.Act
	steps  int
	loops  []int // the values of the open loops, each after its last value
}

// runModel returns what Compile must return.
func runModel(text string) ([]string, int, api.Errno) {
	if len(text) > api.MaxScript {
		return nil, 0, api.ErrFull
	}
	m := &model{jumps: map[int]int{}}
	for row := range strings.SplitSeq(strings.TrimSuffix(text, "\n"), "\n") {
		if text == "" {
			break
		}
		words := strings.Split(row, " ")
		var full []string
		for _, word := range words {
			if word != "" {
				full = append(full, word)
			}
		}
		m.rows = append(m.rows, full)
	}
	if line := m.check(); line > 0 {
		return nil, line, api.ErrSyntax
	}
	if line, err := m.run(); err != api.OK {
		return nil, line, err
	}
	return linesOf(m.acts), 0, api.OK
}

func (m *model) word(at int) string {
	if len(m.rows[at]) == 0 {
		return "#"
	}
	return m.rows[at][0]
}

// check returns the first line that is wrong, and connects the others.
func (m *model) check() int {
	var open []int
	for at, words := range m.rows {
		last := len(open) - 1
		switch word := m.word(at); {
		case word[0] == '#':
		case !wellFormed(words):
			return at + 1
		case word == "for" || word == "if":
			if len(open) == 16 {
				return at + 1
			}
			open = append(open, at)
		case word == "else":
			if last < 0 || m.word(open[last]) != "if" {
				return at + 1
			}
			m.jumps[open[last]], open[last] = at, at
		case word == "end":
			if last < 0 {
				return at + 1
			}
			m.jumps[open[last]], m.jumps[at] = at, open[last]
			open = open[:last]
		}
	}
	if len(open) > 0 {
		return len(m.rows) + 1
	}
	return 0
}

// wellFormed reports whether the words of a line are such as those of a line of a script.
func wellFormed(words []string) bool {
	rest, names, least, most := words[1:], 0, -1, -1
	switch words[0] {
	case "let":
		names, least, most = 1, 1, 1
	case "for":
		names, least, most = 1, 2, 2
	case "if":
		least, most = 1, 1
	case "else", "end":
		least, most = 0, 0
	case "crash":
		least, most = 0, 16
	default:
		for _, row := range actTable {
			if row.word == words[0] {
				least, most = row.fields, row.fields
			}
		}
	}
	if len(rest) < names+least || len(rest) > names+most || least < 0 {
		return false
	}
	if names > 0 && (len(rest[0]) > 16 || strings.Trim(rest[0], "abcdefghijklmnopqrstuvwxyz") != "") {
		return false
	}
	for _, word := range rest[names:] {
		if _, err := script.Eval(word, nil, nil); err == api.ErrSyntax {
			return false
		}
	}
	return true
}

// eval returns the values of expressions, or the first error.
func (m *model) eval(words []string) ([]int, api.Errno) {
	var out []int
	for _, word := range words {
		value, err := script.Eval(word, m.names, m.values)
		if err != api.OK {
			return nil, err
		}
		out = append(out, value)
	}
	return out, api.OK
}

func (m *model) assign(name string, value int) {
	at := slices.Index(m.names, name)
	if at < 0 {
		at = len(m.names)
		m.names, m.values = append(m.names, name), append(m.values, 0)
	}
	m.values[at] = value
}

// step counts a step.
func (m *model) step() api.Errno {
	m.steps++
	if m.steps > 16384 {
		return api.ErrFull
	}
	return api.OK
}

func (m *model) run() (int, api.Errno) {
	for at := 0; at < len(m.rows); {
		next, line, err := m.execute(at)
		if err != api.OK {
			return line + 1, err
		}
		at = next
	}
	return 0, api.OK
}

// execute executes a line, and returns the next one, and that of an error.
func (m *model) execute(at int) (int, int, api.Errno) {
	words := m.rows[at]
	switch word := m.word(at); {
	case word[0] == '#':
		return at + 1, at, api.OK
	case word == "else":
		return m.jumps[at], at, api.OK
	case word == "end" && m.word(m.jumps[at]) == "for":
		return m.again(m.jumps[at])
	case word == "end":
		return at + 1, at, api.OK
	}
	if err := m.step(); err != api.OK {
		return 0, at, err
	}
	from := 1
	if words[0] == "let" || words[0] == "for" {
		from = 2
	}
	values, err := m.eval(words[from:])
	if err != api.OK {
		return 0, at, err
	}
	switch words[0] {
	case "let":
		m.assign(words[1], values[0])
	case "for":
		m.loops = append(m.loops, values[0], values[1])
		return m.again(at)
	case "if":
		if values[0] == 0 {
			return m.jumps[at] + 1, at, api.OK
		}
	default:
		return at + 1, at, m.yield(words[0], values)
	}
	return at + 1, at, api.OK
}

// again begins the next iteration of the loop at a line, or ends the loop.
func (m *model) again(at int) (int, int, api.Errno) {
	last := len(m.loops)
	value := m.loops[last-2]
	if value > m.loops[last-1] {
		m.loops = m.loops[:last-2]
		return m.jumps[at] + 1, at, api.OK
	}
	m.loops[last-2]++
	if err := m.step(); err != api.OK {
		return 0, at, err
	}
	m.assign(m.rows[at][1], value)
	return at + 1, at, api.OK
}

func (m *model) yield(word string, values []int) api.Errno {
	if len(m.acts) == 4096 {
		return api.ErrFull
	}
	a := api.Act{}
	for i, row := range actTable {
		if row.word == word {
			a.Kind = i + 1
			for k, field := range []*int{&a.A, &a.B, &a.C, &a.D, &a.E}[:row.fields] {
				*field = values[k]
			}
			a.Keep = append(a.Keep, values[row.fields:]...)
		}
	}
	m.acts = append(m.acts, a)
	return api.OK
}
