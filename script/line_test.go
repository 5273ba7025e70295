package script_test

import (
	"math"
	"slices"
	"strconv"
	"strings"
	"testing"

	"guilloche/api"
	"guilloche/script"
)

// act returns the act with these numbers in its fields, and in Keep.
func act(kind int, fields [5]int, keep ...int) api.Act {
	return api.Act{Kind: kind, A: fields[0], B: fields[1], C: fields[2], D: fields[3], E: fields[4], Keep: keep}
}

func checkText(t *testing.T, a api.Act, want string, wantErr api.Errno) {
	t.Helper()
	if got, err := script.Text(a); got != want || err != wantErr {
		t.Errorf("Text(%v) = %q, %d; not %q, %d", a, got, err, want, wantErr)
	}
}

func checkParse(t *testing.T, line string, want api.Act, wantErr api.Errno) {
	t.Helper()
	if got, err := script.Parse(line); !sameAct(got, want) || err != wantErr {
		t.Errorf("Parse(%q) = %v, %d; not %v, %d", short(line), got, err, want, wantErr)
	}
}

func checkLine(t *testing.T, a api.Act, line string) {
	t.Helper()
	checkText(t, a, line, api.OK)
	checkParse(t, line, a, api.OK)
}

func TestLinesOfActs(t *testing.T) {
	checkLine(t, act(api.ActMount, [5]int{1}), "mount 1")
	checkLine(t, act(api.ActPrint, [5]int{0, 25}), "print 0 25")
	checkLine(t, act(api.ActTick, [5]int{}), "tick")
	checkLine(t, act(api.ActSpoil, [5]int{1, 2}), "spoil 1 2")
	checkLine(t, act(api.ActRepair, [5]int{1, 2}), "repair 1 2")
	checkLine(t, act(api.ActInspect, [5]int{1, 2, 3, 4}), "inspect 1 2 3 4")
	checkLine(t, act(api.ActCut, [5]int{1}), "cut 1")
	checkLine(t, act(api.ActBegin, [5]int{}), "begin")
	checkLine(t, act(api.ActLook, [5]int{1, 2, 3}), "look 1 2 3")
	checkLine(t, act(api.ActMove, [5]int{1, 2, 3, -1, 5}), "move 1 2 3 -1 5")
	checkLine(t, act(api.ActCommit, [5]int{1}), "commit 1")
	checkLine(t, act(api.ActAbort, [5]int{1}), "abort 1")
	checkLine(t, act(api.ActDestroy, [5]int{1, 2, 3, 4}), "destroy 1 2 3 4")
	checkLine(t, act(api.ActAudit, [5]int{1, 2, 3}), "audit 1 2 3")
	checkLine(t, act(api.ActSave, [5]int{}), "save")
	checkLine(t, act(api.ActCheck, [5]int{}), "check")
	checkLine(t, act(api.ActCrash, [5]int{}), "crash")
	checkLine(t, act(api.ActCrash, [5]int{}, 0), "crash 0")
	checkLine(t, act(api.ActCrash, [5]int{}, 3, -1, 2), "crash 3 -1 2")
	checkLine(t, act(api.ActCrash, [5]int{}, make([]int, 16)...), "crash"+repeat(" 0", 16))
	checkText(t, api.Act{Kind: api.ActCrash, Keep: []int{}}, "crash", api.OK)
	checkText(t, api.Act{Kind: api.ActTick, Keep: []int{}}, "tick", api.OK)
}

func TestLinesOfActsWithOddNumbers(t *testing.T) {
	for i, row := range actTable {
		for _, n := range oddNumbers() {
			for at := range row.fields {
				fields := [5]int{}
				for k := range row.fields {
					fields[k] = 7 + k
				}
				fields[at] = n
				line := row.word
				for _, field := range fields[:row.fields] {
					line += " " + strconv.Itoa(field)
				}
				checkLine(t, act(i+1, fields), line)
			}
		}
	}
	for _, n := range oddNumbers() {
		checkLine(t, act(api.ActCrash, [5]int{}, 1, n, 2), "crash 1 "+strconv.Itoa(n)+" 2")
	}
}

func TestActsThatAreNotValid(t *testing.T) {
	for _, kind := range []int{0, -1, len(actTable) + 1, len(actTable) + 2, 256, math.MinInt, math.MaxInt} {
		checkText(t, act(kind, [5]int{}), "", api.ErrArg)
		checkText(t, act(kind, [5]int{1, 2, 3, 4, 5}, 6), "", api.ErrArg)
	}
	for i, row := range actTable {
		for at := row.fields; at < 5; at++ {
			for _, n := range oddNumbers() {
				fields := [5]int{}
				fields[at] = n
				if n != 0 {
					checkText(t, act(i+1, fields), "", api.ErrArg)
				}
			}
		}
		if i+1 != api.ActCrash {
			checkText(t, act(i+1, [5]int{}, 0), "", api.ErrArg)
			checkText(t, act(i+1, [5]int{}, 1, 2, 3), "", api.ErrArg)
		}
	}
	for _, count := range []int{17, 18, 1000} {
		checkText(t, act(api.ActCrash, [5]int{}, make([]int, count)...), "", api.ErrArg)
	}
}

func TestLinesOfNoAct(t *testing.T) {
	lines := []string{"", " ", "0", "1", "-1", "mounted 1 2", "Mount 1", "MOUNT 1", "mount", "mount ", "mount 1 ", " mount 1", "mount  1", "mount\t1", "mount 1 2", "mount1", "mount 1\n", "mount 1\r", "tick 0", "tick ", "tick\n", "moun 1", "mountt 1", "crash ", "crash 1 ", "crash x", "crash" + repeat(" 0", 17), "crash" + repeat(" 1", 5000), "let a 1", "for", "end", "#", "# mount 1", "mount a", "mount 1+1", "print 1", "print 1 2 3", "print 1,2"}
	for _, line := range lines {
		checkParse(t, line, api.Act{}, api.ErrSyntax)
	}
	for _, row := range actTable {
		for count := range 20 {
			if count != row.fields && (row.word != "crash" || count > 16) {
				checkParse(t, row.word+repeat(" 0", count), api.Act{}, api.ErrSyntax)
			}
		}
		for _, bad := range badNumerals() {
			for at := range row.fields {
				parts := append([]string{row.word}, slices.Repeat([]string{"5"}, row.fields)...)
				parts[at+1] = bad
				checkParse(t, strings.Join(parts, " "), api.Act{}, api.ErrSyntax)
			}
		}
	}
	for _, bad := range badNumerals() {
		checkParse(t, "crash 1 "+bad, api.Act{}, api.ErrSyntax)
		checkParse(t, "crash "+bad+" 1", api.Act{}, api.ErrSyntax)
	}
}

// Each line is tried with small changes, and is parsed if and only if it has the form of one of an act.
func TestChangedLinesOfActs(t *testing.T) {
	accepted := 0
	for i, row := range actTable {
		fields := [5]int{}
		copy(fields[:row.fields], []int{10, -7, 0, 12345, -1})
		line, _ := script.Text(act(i+1, fields))
		for _, changed := range append(mutants(line), mutants("crash 4 -3 0")...) {
			want := actForm.MatchString(changed) && fit(strings.Split(changed, " ")[1:])
			a, err := script.Parse(changed)
			if want != (err == api.OK) || !want && (err != api.ErrSyntax || !sameAct(a, api.Act{})) {
				t.Errorf("Parse(%q) = %v, %d", changed, a, err)
			}
			if want {
				accepted++
				checkText(t, a, changed, api.OK)
			}
		}
	}
	if accepted < 100 {
		t.Errorf("only %d changed lines are lines", accepted)
	}
}

func TestActsShareNoMemory(t *testing.T) {
	keep := []int{1, 2, 3, 99}
	a := api.Act{Kind: api.ActCrash, Keep: keep[:3]}
	checkText(t, a, "crash 1 2 3", api.OK)
	if !slices.Equal(keep, []int{1, 2, 3, 99}) {
		t.Errorf("Text changed its argument: %v", keep)
	}
	first, _ := script.Parse("crash 1 2 3")
	first.Keep[0] = 7
	checkParse(t, "crash 1 2 3", act(api.ActCrash, [5]int{}, 1, 2, 3), api.OK)
}
