package script_test

import (
	"strconv"
	"strings"
	"testing"

	"guilloche/api"
	"guilloche/script"
)

// lines returns a script with these lines.
func lines(list ...string) string { return strings.Join(list, "\n") + "\n" }

func checkActs(t *testing.T, text string, want ...string) {
	t.Helper()
	checkCompile(t, text, want, 0, api.OK)
}

func checkWrong(t *testing.T, text string, line int) {
	t.Helper()
	checkCompile(t, text, nil, line, api.ErrSyntax)
}

func TestExamples(t *testing.T) {
	checkActs(t, lines("for i 1 3", "mount i-1", "end"), "mount 0", "mount 1", "mount 2")
	checkActs(t, lines("for i 1 3", "if i%2=1", "mount i-1", "end", "end"), "mount 0", "mount 2")
	checkWrong(t, lines("let a 1", "tick a"), 2)
}

func TestLinesThatAreIgnored(t *testing.T) {
	for _, text := range []string{"", "\n", "\n\n\n", " ", "   \n  ", "#", "# mount", "#mount 1", "  # x\n\n#\n", "##\xff\x00\t\n", "#" + repeat("x", 65535)} {
		checkActs(t, text)
	}
	checkActs(t, "\n# a\nmount 1\n \n  #b\n   mount   2  \nmount 3", "mount 1", "mount 2", "mount 3")
	checkActs(t, "  let  a   5 \n for i 1  2\n print  a   i \n end  \n", "print 5 1", "print 5 2")
	checkWrong(t, "\n#\n\n mount #", 4)
	checkWrong(t, "mount 1 # one", 1)
	checkWrong(t, "for i 1 2\nend # i", 2)
	for _, odd := range []string{"\t", "\r", "\x00", "\xff", "\u00a0", "\v", "mount\t1", "mount 1\r", "mount 1\t", "mount \u00a01", "\t# x", "\u00a0# x"} {
		checkWrong(t, "tick\n"+odd+"\ntick\n", 2)
	}
}

func TestActsOfScripts(t *testing.T) {
	var text string
	var want []string
	for _, row := range actTable {
		line := row.word
		for i := range row.fields {
			line += " " + strconv.Itoa(10*i-5)
		}
		text, want = text+line+"\n", append(want, line)
		for count := range 20 {
			other := row.word + repeat(" 1", count)
			if count == row.fields || row.word == "crash" && count <= 16 {
				checkActs(t, other, other)
			} else {
				checkWrong(t, "tick\n"+other, 2)
			}
		}
	}
	checkActs(t, text, want...)
	checkActs(t, lines("let a 3", "crash", "crash a", "crash a -a a*a 0 (a)"), "crash", "crash 3", "crash 3 -3 9 0 3")
	checkActs(t, lines("let a 3", "move a a+1 a+2 a+3 a+4", "inspect 4=4 4=5 -a --a"), "move 3 4 5 6 7", "inspect 1 0 -3 3")
	for _, bad := range []string{"mounted 1 2", "Mount 1", "MOUNT 1", "moun 1", "mountt 1", "mount1", "1", "let", "Let a 1", "while 1", "a", "a=1", "a = 1", "End", "endif", "fi"} {
		checkWrong(t, "tick\n\ntick\n"+bad, 4)
	}
}

func TestLet(t *testing.T) {
	checkActs(t, lines("let a 1", "let b a+1", "let a a*10+b", "print a b"), "print 12 2")
	checkActs(t, lines("let let 1", "let for let+1", "let if for+1", "let else if+1", "let end else+1", "let mount end+1", "mount mount"), "mount 6")
	checkActs(t, lines("let abcdefghijklmnop 4", "mount abcdefghijklmnop"), "mount 4")
	for _, bad := range []string{"let", "let a", "let a 1 2", "let a = 1", "let a=1", "let 1 1", "let A 1", "let aB 1", "let a1 1", "let a_ 1", "let - 1", "let (a) 1", "let abcdefghijklmnopq 1", "let a 1+", "let a 01", "let a 9007199254740993", "let a b c", "let é 1", "let a ()", "let a " + repeat("(", 17) + "1" + repeat(")", 17)} {
		checkWrong(t, "tick\n"+bad+"\ntick", 2)
	}
	checkActs(t, "let a "+repeat("(", 16)+"1"+repeat(")", 16)+"\nmount a", "mount 1")
}

func TestVariablesAreValidToTheEnd(t *testing.T) {
	checkActs(t, lines("if 1", "let a 4", "end", "mount a"), "mount 4")
	checkActs(t, lines("for i 1 3", "let a i*i", "end", "print a i"), "print 9 3")
	checkActs(t, lines("for i 1 2", "for k 1 2", "let a 10*i+k", "end", "mount a", "end", "print a k"), "mount 12", "mount 22", "print 22 2")
	checkCompile(t, lines("if 0", "let a 4", "end", "mount a"), nil, 4, api.ErrName)
	checkCompile(t, lines("for i 2 1", "end", "mount i"), nil, 3, api.ErrName)
	checkActs(t, lines("let i 7", "for i 2 1", "end", "mount i"), "mount 7")
	checkCompile(t, lines("mount a", "let a 1"), nil, 1, api.ErrName)
	checkCompile(t, lines("let a a"), nil, 1, api.ErrName)
	checkCompile(t, lines("for i i 1", "end"), nil, 1, api.ErrName)
	checkCompile(t, lines("for i 1 i", "end"), nil, 1, api.ErrName)
	// What was assigned at an iteration is still valid at the next one.
	checkActs(t, lines("let n 0", "for i 1 4", "let n n+i", "if i>1", "print n old", "end", "let old n", "end"), "print 3 1", "print 6 3", "print 10 6")
}

func TestLoops(t *testing.T) {
	checkActs(t, lines("for i 3 5", "mount i", "end", "tick"), "mount 3", "mount 4", "mount 5", "tick")
	checkActs(t, lines("for i 3 3", "mount i", "end", "tick"), "mount 3", "tick")
	checkActs(t, lines("for i 4 3", "mount i", "mount x", "end", "tick"), "tick")
	checkActs(t, lines("for i -2 0", "mount i", "end"), "mount -2", "mount -1", "mount 0")
	checkActs(t, lines("for i 9007199254740991 9007199254740992", "mount i", "end"), "mount 9007199254740991", "mount 9007199254740992")
	checkActs(t, lines("for i -9007199254740992 1-9007199254740992", "mount i", "end"), "mount -9007199254740992", "mount -9007199254740991")
	checkActs(t, lines("for i 9007199254740992 -9007199254740992", "mount i", "end"))
	// Both expressions are evaluated once, and the loop has values of its own.
	checkActs(t, lines("let n 3", "for i 1 n", "let n n-1", "mount n", "end"), "mount 2", "mount 1", "mount 0")
	checkActs(t, lines("for i 1 3", "mount i", "let i 100", "print i i", "end", "mount i"), "mount 1", "print 100 100", "mount 2", "print 100 100", "mount 3", "print 100 100", "mount 100")
	checkActs(t, lines("let i 2", "for i i i+1", "mount i", "end"), "mount 2", "mount 3")
	checkActs(t, lines("for i 1 2", "for i 5 6", "mount i", "end", "mount i*10", "end"), "mount 5", "mount 6", "mount 60", "mount 5", "mount 6", "mount 60")
	checkActs(t, lines("for i 1 3", "for k i 2", "print i k", "end", "end"), "print 1 1", "print 1 2", "print 2 2")
	for _, bad := range []string{"for", "for i", "for i 1", "for i 1 2 3", "for 1 1 2", "for I 1 2", "for i 1 to 2", "for i=1 2", "for i 1..2", "for i 1+ 2", "for i 1 +2", "for abcdefghijklmnopq 1 2", "for i (1 2)"} {
		checkWrong(t, "tick\n"+bad+"\nend", 2)
	}
}

func TestChoices(t *testing.T) {
	for value, want := range map[string]string{"1": "mount 1", "0": "mount 2", "-1": "mount 1", "5": "mount 1", "1=2": "mount 2", "9007199254740992": "mount 1"} {
		checkActs(t, lines("if "+value, "mount 1", "else", "mount 2", "end", "tick"), want, "tick")
	}
	checkActs(t, lines("if 1", "mount 1", "end", "if 0", "mount 2", "end"), "mount 1")
	checkActs(t, lines("if 1", "else", "mount x", "end", "if 0", "mount x", "else", "end"))
	checkActs(t, lines("for i 1 4", "if i<2", "mount 1", "else", "if i<3", "mount 2", "else", "mount 3", "end", "end", "end"), "mount 1", "mount 2", "mount 3", "mount 3")
	checkActs(t, lines("if 1", "if 0", "mount 1", "end", "else", "mount 2", "end"))
	checkActs(t, lines("if 0", "if 1", "mount 1", "end", "else", "mount 2", "end"), "mount 2")
	checkActs(t, lines("if 1", "let a 0", "else", "let a 1", "end", "mount a"), "mount 0")
	for _, bad := range []string{"if", "if 1 2", "if a b", "if 1=", "if a==1", "if (1", "if a then", "else if 1", "end if", "else 1", "end 1", "elseif 1"} {
		checkWrong(t, lines("if 1", "tick", bad, "end"), 3)
	}
}

func TestLinesWithoutTheirBeginning(t *testing.T) {
	checkWrong(t, "end", 1)
	checkWrong(t, "else", 1)
	checkWrong(t, "tick\n\nend\nend\nelse", 3)
	checkWrong(t, lines("if 1", "end", "end"), 3)
	checkWrong(t, lines("if 1", "end", "else"), 3)
	checkWrong(t, lines("if 1", "else", "else", "end"), 3)
	checkWrong(t, lines("if 1", "else", "if 1", "else", "end", "else", "end"), 6)
	checkWrong(t, lines("for i 1 2", "else", "end"), 2)
	checkWrong(t, lines("if 1", "for i 1 2", "else", "end", "end"), 3)
	checkWrong(t, lines("if 1", "else", "for i 1 2", "else", "end", "end"), 4)
	checkWrong(t, lines("for i 1 2", "end", "end"), 3)
	checkWrong(t, lines("for i 1 2", "if 1", "else", "end", "else", "end"), 5)
}

func TestMissingEnds(t *testing.T) {
	for _, begin := range []string{"if 1", "for i 1 2", "if 1\nelse", "if 0\nfor i 1 2\nend", "for i 2 1\nif 1\nelse\nend"} {
		count := strings.Count(begin, "\n") + 1
		checkWrong(t, begin, count+1)
		checkWrong(t, begin+"\n", count+1)
		checkWrong(t, begin+"\n\n", count+2)
		checkWrong(t, begin+"\n ", count+2)
		checkWrong(t, begin+"\ntick\n#", count+3)
		checkWrong(t, begin+"\nif 1\nend\n", count+3)
		checkWrong(t, begin+"\nmount\n\n", count+1)
		checkWrong(t, "mount a\n"+begin+"\n", count+2)
	}
}

func TestDepth(t *testing.T) {
	for _, begin := range []string{"if 1\n", "for i 1 1\n", "if 0\nelse\n"} {
		height := strings.Count(begin, "\n")
		checkActs(t, repeat(begin, 16)+"tick\n"+repeat("end\n", 16), "tick")
		checkWrong(t, repeat(begin, 17)+"tick\n"+repeat("end\n", 17), 16*height+1)
		checkWrong(t, repeat(begin, 17), 16*height+1)
		checkWrong(t, repeat(begin, 16), 16*height+1)
		checkWrong(t, repeat(begin, 3000), 16*height+1)
	}
	checkActs(t, repeat("if 1\ntick\nend\n", 40)+repeat("for i 1 1\ntick\nend\n", 40), strings.Split(strings.TrimSuffix(repeat("tick,", 80), ","), ",")...)
	checkActs(t, repeat("if 1\n", 15)+repeat("if 1\nelse\nend\nfor i 1 1\nend\n", 9)+repeat("end\n", 15))
	checkWrong(t, repeat("if 0\n", 8)+repeat("for i 1 0\n", 8)+"if 1\n", 17)
	checkWrong(t, repeat("if 0\n", 15)+"tick\n"+repeat("for i 1 0\n", 2), 18)
}

func TestFirstWrongLine(t *testing.T) {
	checkWrong(t, lines("mount a", "mount 1/0", "mount"), 3)
	checkWrong(t, lines("for i 1 99999", "end", "if"), 3)
	checkWrong(t, lines("mount", "end", "print"), 1)
	checkWrong(t, lines("if 1", "mount", "print"), 2)
	checkWrong(t, lines("if 0", "mount 1+", "end"), 2)
	checkWrong(t, lines("print 1 2", "print 1 )", "print (", "end"), 2)
	checkWrong(t, lines("look 1 2 3", "look 1 2 007"), 2)
	for _, bad := range []string{"1+", "00", "A", "9007199254740993", "a=b=c", repeat("(", 17) + "1" + repeat(")", 17), "abcdefghijklmnopq"} {
		checkWrong(t, "tick\nlook "+bad+" 2 3", 2)
		checkWrong(t, "tick\nlook 1 "+bad+" 3", 2)
		checkWrong(t, "tick\nlook 1 2 "+bad, 2)
		checkWrong(t, "tick\ncrash 1 "+bad+" 3", 2)
		checkWrong(t, "tick\nif "+bad+"\nend", 2)
		checkWrong(t, "tick\nfor i "+bad+" 1\nend", 2)
		checkWrong(t, "tick\nfor i 1 "+bad+"\nend", 2)
		checkWrong(t, "tick\nlet a "+bad, 2)
	}
}

func TestErrorsOfExecution(t *testing.T) {
	for _, bad := range []string{"1/0", "9007199254740992+1", "1%0", "1/0+x", "4294967296*4294967296"} {
		for _, line := range []string{"mount ", "let a ", "print 1 ", "crash 1 2 ", "look 1 2 "} {
			checkCompile(t, "tick\n\n"+line+bad+"\n", nil, 3, api.ErrValue)
		}
		checkCompile(t, lines("tick", "if "+bad, "end"), nil, 2, api.ErrValue)
		checkCompile(t, lines("tick", "for i 1 "+bad, "end"), nil, 2, api.ErrValue)
		checkCompile(t, lines("tick", "for i "+bad+" x", "end"), nil, 2, api.ErrValue)
		checkCompile(t, lines("print "+bad+" x"), nil, 1, api.ErrValue)
		checkCompile(t, lines("print x "+bad), nil, 1, api.ErrName)
		checkCompile(t, lines("crash 1 x "+bad), nil, 1, api.ErrName)
		checkCompile(t, lines("for i x "+bad, "end"), nil, 1, api.ErrName)
		// What is not executed is no error.
		checkActs(t, lines("if 0", "mount "+bad, "for i x "+bad, "end", "else", "tick", "end", "for i 1 0", "let a "+bad, "end"), "tick")
	}
	checkCompile(t, lines("for i 0 5", "if i>2", "mount 7/(4-i)", "else", "tick", "end", "end"), nil, 3, api.ErrValue)
	checkCompile(t, lines("for i 0 5", "for k 0 1", "tick", "end", "mount i+k", "if i=3", "let n m", "end", "end"), nil, 7, api.ErrName)
	checkCompile(t, lines("for i 1 2", "for k 1 2/(2-i)", "tick", "end", "end"), nil, 2, api.ErrValue)
}

func TestSteps(t *testing.T) {
	for _, test := range []struct {
		text string
		line int
		err  api.Errno
	}{
		{lines("for i 1 16383", "end"), 0, api.OK},
		{lines("for i 1 16384", "end"), 1, api.ErrFull},
		{lines("for i 1 9007199254740992", "end"), 1, api.ErrFull},
		{lines("for i -9007199254740992 9007199254740992", "end", "mount"), 3, api.ErrSyntax},
		{lines("let a 1", "for i 1 16382", "end"), 0, api.OK},
		{lines("let a 1", "for i 1 16383", "end"), 2, api.ErrFull},
		{lines("for i 1 16382", "end", "let a 1"), 0, api.OK},
		{lines("for i 1 16383", "end", "tick"), 3, api.ErrFull},
		{lines("for i 1 16383", "end", "let a x"), 3, api.ErrFull},
		{lines("for i 1 16383", "end", "if 1/0", "end"), 3, api.ErrFull},
		{lines("for i 1 16383", "end", "for i x 1/0", "end"), 3, api.ErrFull},
		{lines("for i 1 16382", "end", "let a x", "let b 1"), 3, api.ErrName},
		{lines("for i 1 16382", "end", "for i 2 1", "let a 1", "end"), 0, api.OK},
		{lines("for i 1 16382", "end", "for i 1 1", "end"), 3, api.ErrFull},
		{lines("for i 1 16382", "end", "if 1", "#", "", "else", "let a 1", "end"), 0, api.OK},
		{lines("for i 1 16382", "end", "if 1", "let a x", "else", "end"), 4, api.ErrFull},
		{lines("for i 1 8191", "let a i", "end", "let b 1"), 0, api.OK},
		{lines("for i 1 8191", "let a i", "end", "let b 1", "let b 1"), 5, api.ErrFull},
		{lines("for i 1 8192", "let a i", "end"), 2, api.ErrFull},
		{lines("let z 1", "for i 1 8192", "let a i", "end"), 2, api.ErrFull},
		{lines("let z 1", "let z 1", "for i 1 8191", "let a i", "end"), 4, api.ErrFull},
		{lines("for i 1 127", "for k 1 127", "end", "end"), 0, api.OK},
		{lines("for i 1 128", "for k 1 127", "end", "end"), 1, api.ErrFull},
		{lines("for i 1 127", "for k 1 127+i/127", "end", "end"), 2, api.ErrFull},
		{lines("for i 1 6553", "if i%2", "else", "let b 1", "end", "end", "let c 1"), 0, api.OK},
		{lines("for i 1 6553", "if i%2", "else", "let b 1", "end", "end", "let c 1", "let c 1"), 8, api.ErrFull},
		{lines("for i 1 6554", "if i%2", "else", "let b 1", "end", "end"), 2, api.ErrFull},
		{lines("for i 1 2", "for k 1 16384", "end", "end"), 2, api.ErrFull},
		{lines("tick", "for i 1 16383", "end", "tick"), 2, api.ErrFull},
	} {
		checkCompile(t, test.text, nil, test.line, test.err)
	}
	checkActs(t, lines("tick", "for i 1 16381", "end", "tick"), "tick", "tick")
}

func TestTooManyActs(t *testing.T) {
	want := strings.Split(repeat("tick,", 4095)+"tick", ",")
	checkActs(t, lines("for i 1 4096", "tick", "end"), want...)
	checkActs(t, repeat("tick\n", 4096), want...)
	checkCompile(t, repeat("tick\n", 4097), nil, 4097, api.ErrFull)
	checkCompile(t, lines("for i 1 4097", "tick", "end"), nil, 2, api.ErrFull)
	checkCompile(t, lines("for i 1 4096", "tick", "end", "", "crash 1 2"), nil, 5, api.ErrFull)
	checkActs(t, lines("for i 1 4096", "tick", "end", "", "let a 1", "if a=2", "tick", "end"), want...)
	// An act is evaluated before it is one too many.
	checkCompile(t, lines("for i 1 4096", "tick", "end", "mount x"), nil, 4, api.ErrName)
	checkCompile(t, lines("for i 1 4096", "tick", "end", "mount 1/0"), nil, 4, api.ErrValue)
	checkWrong(t, lines("for i 1 4097", "tick", "end", "mount"), 4)
	// The step is counted before: this act would be the 16385th step and the 4097th act.
	checkCompile(t, lines("for i 1 4096", "tick", "end", "for i 1 8190", "end", "mount x"), nil, 6, api.ErrFull)
}

func TestLongScripts(t *testing.T) {
	checkActs(t, "tick\n"+repeat(" ", 65531), "tick")
	checkActs(t, "tick\n"+repeat("\n", 65531), "tick")
	checkActs(t, "tick\n#"+repeat("x", 65530), "tick")
	for _, text := range []string{"tick\n" + repeat(" ", 65532), repeat("\n", 65537), "mount\n" + repeat("\n", 65536), repeat("x", 1000000), repeat("tick\n", 100000), "#" + repeat("#", 65536)} {
		checkCompile(t, text, nil, 0, api.ErrFull)
	}
	checkWrong(t, repeat("\n", 65531)+"mount", 65532)
	checkWrong(t, repeat("\n", 65531)+"end 1", 65532)
	checkWrong(t, "if 1"+repeat("\n", 65532), 65533)
	checkWrong(t, repeat("x", 65536), 1)
	checkActs(t, "mount "+repeat("-", 65528)+"1\n", "mount 1")
	checkActs(t, "mount 0"+repeat("+1", 32764), "mount 32764")
	checkActs(t, "for i 1 50\nlet a 0"+repeat("+i", 30000)+"\nend\nmount a", "mount 1500000")
}

func TestCompiledActsShareNoMemory(t *testing.T) {
	text := lines("for i 1 3", "crash i 2", "end")
	acts, _, _ := script.Compile(text)
	if len(acts) != 3 {
		t.Fatalf("%d acts", len(acts))
	}
	acts[0].Keep[1] = 7
	_ = append(acts[1].Keep[:1], 8)
	checkActs(t, text, "crash 1 2", "crash 2 2", "crash 3 2")
	if got := linesOf(acts[2:]); got[0] != "crash 3 2" {
		t.Errorf("the third act is %s", got[0])
	}
}
