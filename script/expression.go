package script

import (
	"guilloche/api"
)

const maxName = 16

// fault is what is wrong with an expression, or with a line of a script. The functions of this package panic with it, and the exported ones recover it.
type fault struct {
	line int
	err  api.Errno
}

func demand(holds bool, line int, err api.Errno) {
	if !holds {
		panic(fault{line, err})
	}
}

// item is a part of an expression: an operation if there is one, a name if it is not empty, or else a number.
type item struct {
	apply  func(a, b int) (int, bool)
	name   string
	number int
}

// Eval returns the value of an expression in which names have values.
func Eval(expr string, names []string, values []int) (value int, err api.Errno) {
	defer func() {
		if f, ok := recover().(fault); ok {
			value, err = 0, f.err
		}
	}()
	// The expression is read twice, since what is wrong at its end comes before what has no value at its beginning.
	parse(expr, 0, func(item) {})
	m := machine{values: map[string]int{}}
	for i := range min(len(names), len(values)) {
		m.values[names[i]] = values[i]
	}
	parse(expr, 0, m.do)
	return m.pop(), api.OK
}

// parser reads an expression.
type parser struct {
	levels [5]level
	rest   string
	line   int
	open   int // parentheses
	emit   func(item)
}

// parse reads an expression of a line, and emits its items in the order in which they are evaluated: operands before their operation.
func parse(expr string, line int, emit func(item)) {
	p := parser{levels: levels(), rest: expr, line: line, emit: emit}
	p.readLevel(0)
	p.demand(p.rest == "")
}

func (p *parser) demand(holds bool) { demand(holds, p.line, api.ErrSyntax) }

// readLevel reads operands with operators of a level between them.
func (p *parser) readLevel(n int) {
	if n == len(p.levels) {
		p.readSigned()
		return
	}
	p.readLevel(n + 1)
	for {
		apply := p.takeOperator(p.levels[n].operators)
		if apply == nil {
			return
		}
		p.readLevel(n + 1)
		p.emit(item{apply: apply})
		if p.levels[n].once {
			return
		}
	}
}

// readSigned reads an operand with its signs, of which two in a row change nothing.
func (p *parser) readSigned() {
	negative := false
	for p.take('-') {
		negative = !negative
	}
	if negative {
		p.emit(item{number: 0})
	}
	p.readOperand()
	if negative {
		p.emit(item{apply: difference})
	}
}

func (p *parser) readOperand() {
	if p.take('(') {
		p.open++
		p.demand(p.open <= api.MaxDepth)
		p.readLevel(0)
		p.demand(p.take(')'))
		p.open--
		return
	}
	if digits := p.takeAll('0', '9'); digits != "" {
		n, ok := readNumber(digits)
		p.demand(ok && n <= api.MaxValue)
		p.emit(item{number: n})
		return
	}
	name := p.takeAll('a', 'z')
	p.demand(isName(name))
	p.emit(item{name: name})
}

// take takes the next byte if it is this one.
func (p *parser) take(sign byte) bool {
	if p.rest == "" || p.rest[0] != sign {
		return false
	}
	p.rest = p.rest[1:]
	return true
}

// takeAll takes the next bytes as long as they are from first to last.
func (p *parser) takeAll(first, last byte) string {
	n := 0
	for n < len(p.rest) && p.rest[n] >= first && p.rest[n] <= last {
		n++
	}
	taken := p.rest[:n]
	p.rest = p.rest[n:]
	return taken
}

// takeOperator takes the next byte if it is the sign of an operator, and returns its operation.
func (p *parser) takeOperator(operators []operator) func(a, b int) (int, bool) {
	for _, o := range operators {
		if p.take(o.sign) {
			return o.apply
		}
	}
	return nil
}

func isName(s string) bool {
	for i := range len(s) {
		if s[i] < 'a' || s[i] > 'z' {
			return false
		}
	}
	return len(s) >= 1 && len(s) <= maxName
}

// machine evaluates expressions, item by item.
type machine struct {
	line   int
	values map[string]int
	stack  []int
}

func (m *machine) do(i item) {
	switch {
	case i.apply != nil:
		second := m.pop()
		first := m.pop()
		value, ok := i.apply(first, second)
		demand(ok, m.line, api.ErrValue)
		m.push(value)
	case i.name != "":
		given, known := m.values[i.name]
		demand(known, m.line, api.ErrName)
		value, ok := inRange(given)
		demand(ok, m.line, api.ErrValue)
		m.push(value)
	default:
		m.push(i.number)
	}
}

func (m *machine) push(value int) { m.stack = append(m.stack, value) }

func (m *machine) pop() int {
	last := len(m.stack) - 1
	value := m.stack[last]
	m.stack = m.stack[:last]
	return value
}
