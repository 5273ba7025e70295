package script_test

import (
	"math/big"
	"strings"

	"guilloche/api"
)

// tree is an expression: a numeral or a name if it has no operands, a sign if it has one, and an operation if it has two.
type tree struct {
	text     string
	operands []*tree
}

// grammar is the operators of each line of the chapter's grammar.
var grammar = []string{"|", "&", "=<>", "+-", "*/%"}

const testLevel, signLevel, primLevel = 2, 5, 6

// derive returns the tree of a text by a line of the grammar, or nil: it tries all ways of dividing the text.
func derive(level int, text string) *tree {
	switch {
	case text == "":
		return nil
	case level == primLevel:
		return derivePrim(text)
	case level == signLevel && text[0] == '-':
		if t := derive(signLevel, text[1:]); t != nil {
			return &tree{"-", []*tree{t}}
		}
		return nil
	case level == signLevel:
		return derive(primLevel, text)
	}
	leftLevel := level
	if level == testLevel {
		leftLevel++
	}
	for i := range len(text) {
		if strings.IndexByte(grammar[level], text[i]) >= 0 {
			if right := derive(level+1, text[i+1:]); right != nil {
				if left := derive(leftLevel, text[:i]); left != nil {
					return &tree{text[i : i+1], []*tree{left, right}}
				}
			}
		}
	}
	return derive(level+1, text)
}

func derivePrim(text string) *tree {
	if text[0] == '(' && text[len(text)-1] == ')' && len(text) > 2 {
		return derive(0, text[1:len(text)-1])
	}
	if n, ok := new(big.Int).SetString(text, 10); ok && n.String() == text && n.Sign() >= 0 && n.Cmp(big.NewInt(api.MaxValue)) <= 0 {
		return &tree{text, nil}
	}
	if strings.Trim(text, "abcdefghijklmnopqrstuvwxyz") == "" && len(text) <= 16 {
		return &tree{text, nil}
	}
	return nil
}

// evaluate returns the value of a tree, or its first error.
func (t *tree) evaluate(values map[string]int) (*big.Int, api.Errno) {
	var operands []*big.Int
	for _, operand := range t.operands {
		value, err := operand.evaluate(values)
		if err != api.OK {
			return nil, err
		}
		operands = append(operands, value)
	}
	value, err := t.apply(operands, values)
	if err == api.OK && value.CmpAbs(big.NewInt(api.MaxValue)) > 0 {
		return nil, api.ErrValue
	}
	return value, err
}

func (t *tree) apply(operands []*big.Int, values map[string]int) (*big.Int, api.Errno) {
	if len(operands) == 0 && t.text[0] >= 'a' {
		value, known := values[t.text]
		if !known {
			return nil, api.ErrName
		}
		return big.NewInt(int64(value)), api.OK
	}
	value := new(big.Int)
	if len(operands) == 0 {
		value.SetString(t.text, 10)
		return value, api.OK
	}
	a := operands[0]
	if len(operands) == 1 {
		return value.Neg(a), api.OK
	}
	b := operands[1]
	if (t.text == "/" || t.text == "%") && b.Sign() == 0 {
		return nil, api.ErrValue
	}
	holds := false
	switch t.text {
	case "+":
		return value.Add(a, b), api.OK
	case "-":
		return value.Sub(a, b), api.OK
	case "*":
		return value.Mul(a, b), api.OK
	case "/":
		return value.Quo(a, b), api.OK
	case "%":
		return value.Sub(a, value.Mul(b, value.Quo(a, b))), api.OK
	case "|":
		holds = a.Sign() != 0 || b.Sign() != 0
	case "&":
		holds = a.Sign() != 0 && b.Sign() != 0
	case "=":
		holds = a.Cmp(b) == 0
	case "<":
		holds = a.Cmp(b) < 0
	case ">":
		holds = a.Cmp(b) > 0
	}
	if holds {
		value.SetInt64(1)
	}
	return value, api.OK
}

// expected returns what Eval must return for a text with at most MaxDepth parentheses in it.
func expected(text string, values map[string]int) (int, api.Errno) {
	t := derive(0, text)
	if t == nil {
		return 0, api.ErrSyntax
	}
	value, err := t.evaluate(values)
	if err != api.OK {
		return 0, err
	}
	return int(value.Int64()), api.OK
}

// print returns a text of a tree at a line of the grammar, with the parentheses that it needs, and others if more says so.
func (t *tree) print(level int, more func() bool) string {
	if more() {
		return "(" + t.print(0, func() bool { return false }) + ")"
	}
	if len(t.operands) == 0 {
		return t.text
	}
	own := signLevel
	if len(t.operands) == 2 {
		for own = 0; !strings.Contains(grammar[own], t.text); own++ {
		}
	}
	if own < level {
		return "(" + t.print(0, more) + ")"
	}
	if own == signLevel {
		return "-" + t.operands[0].print(signLevel, more)
	}
	leftLevel := own
	if own == testLevel {
		leftLevel++
	}
	return t.operands[0].print(leftLevel, more) + t.text + t.operands[1].print(own+1, more)
}
