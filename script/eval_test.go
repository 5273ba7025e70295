package script_test

import (
	"maps"
	"math"
	"math/rand/v2"
	"slices"
	"strconv"
	"strings"
	"testing"

	"guilloche/api"
	"guilloche/script"
)

func checkValue(t *testing.T, expr string, want int) {
	t.Helper()
	checkEval(t, expr, nil, nil, want, api.OK)
}

func checkError(t *testing.T, expr string, want api.Errno) {
	t.Helper()
	checkEval(t, expr, nil, nil, 0, want)
}

func TestValues(t *testing.T) {
	for expr, want := range map[string]int{
		"0": 0, "7": 7, "10": 10, "9007199254740992": api.MaxValue, "-9007199254740992": -api.MaxValue, "-0": 0, "--5": 5, "---5": -5, "(7)": 7, "((7))": 7, "-(7)": -7, "-(-7)": 7,
		"1+2": 3, "1-2": -1, "1-2-3": -4, "1-(2-3)": 2, "1--2": 3, "1+-2": -1, "1---2": -1, "2*3+4": 10, "2+3*4": 14, "(2+3)*4": 20, "2*-3": -6, "-2*3": -6, "-2*-3": 6,
		"7/2": 3, "-7/2": -3, "7/-2": -3, "-7/-2": 3, "7%2": 1, "-7%2": -1, "7%-2": 1, "-7%-2": -1, "6%3": 0, "-6%3": 0, "0/5": 0, "0%5": 0, "100/10/5": 2, "100/(10/5)": 50, "7*2/3": 4, "7/3*2": 4, "17%10%4": 3, "2*7%5": 4, "-(7/2)": -3, "1/-9007199254740992": 0,
		"1=1": 1, "1=2": 0, "1<2": 1, "2<1": 0, "1<1": 0, "1>2": 0, "2>1": 1, "1>1": 0, "-1<0": 1, "1+1=2": 1, "2=1+1": 1, "(1<2)<3": 1, "3>(2>1)": 1, "(1=2)=0": 1, "(3>2)>1": 0,
		"1&1": 1, "1&0": 0, "0&1": 0, "0&0": 0, "2&4": 1, "-1&7": 1, "1|1": 1, "1|0": 1, "0|1": 1, "0|0": 0, "0|-3": 1, "5|6": 1,
		"1|0&0": 1, "(1|0)&0": 0, "0&0|1": 1, "1=1&2=2": 1, "1=1&2=3": 0, "1=2|2=2": 1, "2&1=1": 1, "1|1=0": 1, "2|0=2": 1, "0|0|0|5": 1, "1&1&1&0": 0, "1<2&2<3|0": 1,
		"9007199254740991+1": api.MaxValue, "9007199254740992-9007199254740992": 0, "-9007199254740992-0": -api.MaxValue, "9007199254740992/-1": -api.MaxValue, "94906265*94906265": 94906265 * 94906265, "4503599627370496*2": api.MaxValue, "4503599627370496*-2": -api.MaxValue, "-2*4503599627370496": -api.MaxValue, "0*9007199254740992": 0, "9007199254740992*1": api.MaxValue, "9007199254740992%9007199254740991": 1,
	} {
		checkValue(t, expr, want)
	}
}

func TestValuesOutOfRange(t *testing.T) {
	for _, expr := range []string{
		"9007199254740992+1", "1+9007199254740992", "-9007199254740992-1", "-1-9007199254740992", "9007199254740992--1", "9007199254740992+9007199254740992", "-9007199254740992-9007199254740992",
		"94906266*94906266", "-94906266*94906266", "94906266*-94906266", "3*4503599627370496", "9007199254740992*9007199254740992", "-9007199254740992*9007199254740992", "9007199254740992*-2", "4294967296*4294967296", "8589934592*2147483648", "6074001000*3037000500",
		"9007199254740992+1-1", "1-1+9007199254740992+1", "(9007199254740992+1)*0", "0&(9007199254740992*2)", "1|1/0", "0&1/0", "9007199254740992*2/2",
		"1/0", "1%0", "0/0", "0%0", "-1/0", "9007199254740992/0", "9007199254740992%0", "1/(1-1)", "1%(2=3)", "1/-0", "1+1/0",
	} {
		checkError(t, expr, api.ErrValue)
	}
}

func TestNoExpressions(t *testing.T) {
	for _, expr := range []string{
		"", " ", "1 ", " 1", "1 +1", "1\n", "\t1", "1\x00", "(", ")", "()", "(1", "1)", "(1))", "((1)", ")(", "1(2)", "(1)(2)", "(1)2", "-", "--", "+", "+1", "*1", "/1", "%1", "=1", "<1", ">1", "&1", "|1", "1+", "1-", "1*", "1/", "1%", "1=", "1<", "1>", "1&", "1|", "-(", "-()",
		"1++1", "1**1", "1//2", "1==1", "1<=2", "1>=2", "1=<2", "1&&1", "1||1", "1*+1", "1!=2", "!1", "~1", "1^2", "1<<2", "1<2<3", "1=1=1", "1<2=1", "3>2>1", "1<2+3=5", "1=(2)=3",
		"00", "01", "007", "-01", "1+00", "0x1", "1e3", "1.5", "1,000", "1_0", "9007199254740993", "-9007199254740993", "9223372036854775807", "9223372036854775808", "99999999999999999999999", "9007199254740993-1", strings.Repeat("9", 4000),
		"A", "aB", "a1", "1a", "a_b", "a b", "a(1)", "(a)b", "é", "ab\xff", "abcdefghijklmnopq", "1+abcdefghijklmnopq", strings.Repeat("a", 4000), "#", "#1", "$a", "\"1\"", "a.b", "0a", "[1]", "{1}", "a=b=c", "\u0661",
	} {
		checkError(t, expr, api.ErrSyntax)
	}
}

func TestNames(t *testing.T) {
	names := []string{"a", "b", "abcdefghijklmnop", "z", "let", "end"}
	values := []int{1, -20, 300, api.MaxValue, 5, 6}
	for expr, want := range map[string]int{"a": 1, "b": -20, "-b": 20, "--b": -20, "abcdefghijklmnop": 300, "a+b*2": -39, "(a)": 1, "z-z": 0, "-z": -api.MaxValue, "a<b": 0, "b<a": 1, "let*end": 30} {
		checkEval(t, expr, names, values, want, api.OK)
	}
	for _, expr := range []string{"x", "ab", "aa", "abcdefghijklmno", "a+x", "x+a", "-x", "(x)", "0&x", "1|x", "0*x", "x-x", "e"} {
		checkEval(t, expr, names, values, 0, api.ErrName)
	}
	checkEval(t, "a", nil, []int{1}, 0, api.ErrName)
	checkEval(t, "a", []string{"a"}, nil, 0, api.ErrName)
	checkEval(t, "a", []string{}, []int{}, 0, api.ErrName)
	// Of equal names the last one counts; what has no counterpart is ignored.
	checkEval(t, "a", []string{"a", "a", "b", "a"}, []int{1, 2, 3, 4}, 4, api.OK)
	checkEval(t, "a", []string{"a", "a", "b", "a"}, []int{1, 2, 3}, 2, api.OK)
	checkEval(t, "a", []string{"a", "a", "b", "a"}, []int{1}, 1, api.OK)
	checkEval(t, "b", []string{"a", "b"}, []int{1}, 0, api.ErrName)
	checkEval(t, "a", []string{"a"}, []int{1, 2, 3}, 1, api.OK)
	checkEval(t, "a+1", []string{"", "A", "a1", " ", "1", "abcdefghijklmnopq", "a"}, []int{9, 9, 9, 9, 9, 9, 1}, 2, api.OK)
	checkEval(t, "1", []string{"1"}, []int{math.MaxInt}, 1, api.OK)
}

func TestGivenValuesOutOfRange(t *testing.T) {
	for _, bad := range []int{api.MaxValue + 1, -api.MaxValue - 1, math.MaxInt, math.MinInt, math.MinInt + 1} {
		names, values := []string{"a", "b"}, []int{bad, 1}
		for _, expr := range []string{"a", "-a", "a-a", "a*0", "a=a", "1|a", "0&a", "a%1", "a/a", "b+a", "a+x", "a+1/0"} {
			checkEval(t, expr, names, values, 0, api.ErrValue)
		}
		for expr, want := range map[string]int{"b": 1, "1": 1, "b+b": 2} {
			checkEval(t, expr, names, values, want, api.OK)
		}
		checkEval(t, "x+a", names, values, 0, api.ErrName)
		checkEval(t, "a", []string{"a", "a"}, []int{bad, 7}, 7, api.OK)
		checkEval(t, "a", []string{"a", "a"}, []int{7, bad}, 0, api.ErrValue)
	}
}

// What is no expression comes first, and then the first error from left to right.
func TestOrderOfErrors(t *testing.T) {
	for expr, want := range map[string]api.Errno{
		"1/0+x": api.ErrValue, "x+1/0": api.ErrName, "1/0*x": api.ErrValue, "1/(0*x)": api.ErrName, "x/0": api.ErrName, "(1/0)&x": api.ErrValue, "x|1/0": api.ErrName, "1+9007199254740992-x": api.ErrValue, "1+(9007199254740992-x)": api.ErrName, "0-x*(1/0)": api.ErrName, "0-(1/0)*x": api.ErrValue, "1/0=x": api.ErrValue, "x<1/0": api.ErrName,
		"1/0)": api.ErrSyntax, "1/0+": api.ErrSyntax, "x+": api.ErrSyntax, "x y": api.ErrSyntax, "1/0+x+X": api.ErrSyntax, "x+9007199254740993": api.ErrSyntax, "(1/0": api.ErrSyntax, "1/0=1=1": api.ErrSyntax,
	} {
		checkError(t, expr, want)
	}
}

func TestParentheses(t *testing.T) {
	for depth := range 40 {
		want, wantErr := 7, api.OK
		if depth > api.MaxDepth {
			want, wantErr = 0, api.ErrSyntax
		}
		checkEval(t, repeat("(", depth)+"7"+repeat(")", depth), nil, nil, want, wantErr)
		checkEval(t, repeat("-(0+", depth)+"7"+repeat(")", depth), nil, nil, want*(1-depth%2*2), wantErr)
		checkEval(t, "(1)-(0*(2))-"+repeat("(", depth)+"8"+repeat(")", depth)+"*1-(1)+(1)", nil, nil, want*-1, wantErr)
		checkError(t, repeat("(", depth)+"7"+repeat(")", depth+1), api.ErrSyntax)
		checkError(t, repeat("(", depth+1)+"7"+repeat(")", depth), api.ErrSyntax)
	}
	checkValue(t, "0"+repeat("+("+repeat("(", 15)+"1"+repeat(")", 15)+")", 1000), 1000)
	checkError(t, repeat("(", 17)+"x"+repeat(")", 17), api.ErrSyntax)
}

func TestLongExpressions(t *testing.T) {
	const many = 300000
	checkValue(t, repeat("-", many)+"1", 1)
	checkValue(t, repeat("-", many+1)+"1", -1)
	checkValue(t, "1"+repeat("+1", many), many+1)
	checkValue(t, "1"+repeat("--1", many), many+1)
	checkValue(t, "0"+repeat("|0", many)+"|2", 1)
	checkError(t, repeat("(", many), api.ErrSyntax)
	checkError(t, repeat("-", many), api.ErrSyntax)
	checkError(t, "1"+repeat("+1", many)+"+", api.ErrSyntax)
	checkError(t, "1/0"+repeat("+1", many), api.ErrValue)
	checkEval(t, "a"+repeat("*a", many), slices.Repeat([]string{"b", "a"}, 1000), slices.Repeat([]int{5, -1}, 1000), -1, api.OK)
}

// All short texts have the value, or the error, that the grammar gives them.
func TestAllShortExpressions(t *testing.T) {
	values := map[string]int{"a": 3}
	for _, signs := range []string{"0127a()-+*/<", "01|&=>%-()bA", "9-0 #<=>\n(a"} {
		texts := []string{""}
		for range 5 {
			var longer []string
			for _, text := range texts {
				for i := range len(signs) {
					longer = append(longer, text+signs[i:i+1])
				}
			}
			texts = longer
			for _, text := range texts {
				want, wantErr := expected(text, values)
				checkEval(t, text, []string{"a"}, []int{3}, want, wantErr)
			}
		}
	}
}

// randomTree returns a tree of some height with operators, names and numerals.
func randomTree(r *rand.Rand, height int) *tree {
	switch {
	case height == 0 && r.IntN(3) == 0:
		return &tree{[]string{"a", "b", "big", "none", "huge"}[r.IntN(5)], nil}
	case height == 0 && r.IntN(4) == 0:
		return &tree{strconv.Itoa(api.MaxValue >> r.IntN(54)), nil}
	case height == 0:
		return &tree{strconv.Itoa(r.IntN(4)), nil}
	case r.IntN(5) == 0:
		return &tree{"-", []*tree{randomTree(r, height-1)}}
	}
	level := grammar[r.IntN(len(grammar))]
	at := r.IntN(len(level))
	return &tree{level[at : at+1], []*tree{randomTree(r, r.IntN(height)), randomTree(r, r.IntN(height))}}
}

// Random expressions have the values of their trees, with and without parentheses that they do not need.
func TestRandomExpressions(t *testing.T) {
	r := newSource(1)
	given := map[string]int{"a": 5, "b": -6, "big": api.MaxValue, "huge": math.MaxInt}
	names := slices.Sorted(maps.Keys(given))
	var values []int
	for _, name := range names {
		values = append(values, given[name])
	}
	counts := map[api.Errno]int{}
	for range 30000 {
		x := randomTree(r, 1+r.IntN(5))
		want, wantErr := 0, api.OK
		value, err := x.evaluate(given)
		if wantErr = err; err == api.OK {
			want = int(value.Int64())
		}
		counts[wantErr]++
		checkEval(t, x.print(0, func() bool { return false }), names, values, want, wantErr)
		checkEval(t, x.print(0, func() bool { return r.IntN(8) == 0 }), names, values, want, wantErr)
	}
	if counts[api.OK] < 5000 || counts[api.ErrName] < 500 || counts[api.ErrValue] < 500 {
		t.Errorf("too few expressions of a kind: %v", counts)
	}
}

// Random expressions with a changed byte are what the grammar says.
func TestChangedExpressions(t *testing.T) {
	r := newSource(2)
	given := map[string]int{"a": 5, "b": -6, "big": api.MaxValue}
	names, values := []string{"a", "b", "big"}, []int{5, -6, api.MaxValue}
	wrong := 0
	for range 4000 {
		text := []byte(randomTree(r, 1+r.IntN(3)).print(0, func() bool { return r.IntN(8) == 0 }))
		const signs = "0123ab()+-*/%<>=&|A #"
		text[r.IntN(len(text))] = signs[r.IntN(len(signs))]
		want, wantErr := expected(string(text), given)
		checkEval(t, string(text), names, values, want, wantErr)
		if wantErr == api.ErrSyntax {
			wrong++
		}
	}
	if wrong < 500 || wrong > 3500 {
		t.Errorf("%d expressions are wrong", wrong)
	}
}

func TestEvalKeepsItsArguments(t *testing.T) {
	names, values := []string{"b", "a", "a"}, []int{1, 2, 3}
	for range 3 {
		if got, err := script.Eval("a*10+b", names, values); got != 31 || err != api.OK {
			t.Errorf("Eval = %d, %d", got, err)
		}
	}
	if !slices.Equal(names, []string{"b", "a", "a"}) || !slices.Equal(values, []int{1, 2, 3}) {
		t.Errorf("Eval changed its arguments: %q, %v", names, values)
	}
}
