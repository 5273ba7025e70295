package script_test

import (
	"math"
	"slices"
	"strconv"
	"strings"
	"testing"

	"guilloche/api"
	"guilloche/script"
)

func checkEventText(t *testing.T, v api.Event, want string, wantErr api.Errno) {
	t.Helper()
	if got, err := script.EventText(v); got != want || err != wantErr {
		t.Errorf("EventText(%v) = %q, %d; not %q, %d", v, got, err, want, wantErr)
	}
}

func checkParseEvent(t *testing.T, line string, want api.Event, wantErr api.Errno) {
	t.Helper()
	if got, err := script.ParseEvent(line); got != want || err != wantErr {
		t.Errorf("ParseEvent(%q) = %v, %d; not %v, %d", short(line), got, err, want, wantErr)
	}
}

func checkEventLine(t *testing.T, v api.Event, line string) {
	t.Helper()
	checkEventText(t, v, line, api.OK)
	checkParseEvent(t, line, v, api.OK)
}

// event returns a valid event of a kind with a number in each field that it uses, and its line.
func event(kind int, numbers [3]int, text string) (api.Event, string) {
	row := eventTable[kind-1]
	v, line := api.Event{Kind: kind}, row.word
	for i, field := range []*int{&v.A, &v.B, &v.C}[:row.fields] {
		*field = numbers[i]
		line += " " + strconv.Itoa(numbers[i])
	}
	if row.text {
		v.Text = text
		line += " " + text
	}
	return v, line
}

func TestLinesOfEvents(t *testing.T) {
	checkEventLine(t, api.Event{Kind: api.EvMounted, A: 1, B: 2}, "mounted 1 2")
	checkEventLine(t, api.Event{Kind: api.EvPrinted, A: 1, B: 2, C: 3}, "printed 1 2 3")
	checkEventLine(t, api.Event{Kind: api.EvDried, A: 1, B: 2}, "dried 1 2")
	checkEventLine(t, api.Event{Kind: api.EvSpoiled, A: 1}, "spoiled 1")
	checkEventLine(t, api.Event{Kind: api.EvReprinted, A: 1}, "reprinted 1")
	checkEventLine(t, api.Event{Kind: api.EvReplaced, A: 1, B: 2}, "replaced 1 2")
	checkEventLine(t, api.Event{Kind: api.EvOpened, A: 1}, "opened 1")
	checkEventLine(t, api.Event{Kind: api.EvRepaired, A: 1, B: 2}, "repaired 1 2")
	checkEventLine(t, api.Event{Kind: api.EvInspected, A: 1, B: 2, C: 3}, "inspected 1 2 3")
	checkEventLine(t, api.Event{Kind: api.EvCut, A: 1, B: 2, C: 3}, "cut 1 2 3")
	checkEventLine(t, api.Event{Kind: api.EvBegun, A: 1}, "begun 1")
	checkEventLine(t, api.Event{Kind: api.EvRun, A: 1, B: 2, C: 3}, "run 1 2 3")
	checkEventLine(t, api.Event{Kind: api.EvLooked, A: 1, B: 2, C: 3}, "looked 1 2 3")
	checkEventLine(t, api.Event{Kind: api.EvMoved, A: 1, B: 2, C: 3}, "moved 1 2 3")
	checkEventLine(t, api.Event{Kind: api.EvRefused, A: 1}, "refused 1")
	checkEventLine(t, api.Event{Kind: api.EvWaits, A: 1}, "waits 1")
	checkEventLine(t, api.Event{Kind: api.EvGranted, A: 1}, "granted 1")
	checkEventLine(t, api.Event{Kind: api.EvCommitted, A: 1, B: 2}, "committed 1 2")
	checkEventLine(t, api.Event{Kind: api.EvAborted, A: 1}, "aborted 1")
	checkEventLine(t, api.Event{Kind: api.EvDestroyed, A: 1, B: 2}, "destroyed 1 2")
	checkEventLine(t, api.Event{Kind: api.EvDrawn, A: 1, Text: "07945"}, "drawn 1 07945")
	checkEventLine(t, api.Event{Kind: api.EvAudited, A: 1, B: 2, Text: "ab"}, "audited 1 2 ab")
	checkEventLine(t, api.Event{Kind: api.EvSaved, A: 1}, "saved 1")
	checkEventLine(t, api.Event{Kind: api.EvChecked, A: 1}, "checked 1")
	checkEventLine(t, api.Event{Kind: api.EvRecovered, A: 1}, "recovered 1")
}

func goodTokens() []string {
	return []string{"!", "~", "0", "-", "#", "A1", "\"", "drawn", strings.Repeat("x", 64), "!\"#$%&'()*+,-./0123456789:;<=>?@ABCDEFGHIJKLMNOPQRSTUVWXYZ[\\]^_", "`abcdefghijklmnopqrstuvwxyz{|}~"}
}

func badTokens() []string {
	return []string{"", " ", "a b", "a ", " a", "\n", "a\n", "\t", "\x00", "\x1f", "\x7f", "\x80", "\xff", "é", strings.Repeat("x", 65), strings.Repeat("x", 5000)}
}

func TestLinesOfEventsWithOddParts(t *testing.T) {
	for i := range eventTable {
		for at := range 3 {
			for _, n := range oddNumbers() {
				numbers := [3]int{4, 5, 6}
				numbers[at] = n
				v, line := event(i+1, numbers, "text")
				checkEventLine(t, v, line)
			}
		}
		for _, token := range goodTokens() {
			v, line := event(i+1, [3]int{4, 5, 6}, token)
			checkEventLine(t, v, line)
		}
	}
}

func TestEventsThatAreNotValid(t *testing.T) {
	for _, kind := range []int{0, -1, len(eventTable) + 1, 256, math.MinInt, math.MaxInt} {
		checkEventText(t, api.Event{Kind: kind}, "", api.ErrArg)
		checkEventText(t, api.Event{Kind: kind, A: 1, B: 2, C: 3, Text: "x"}, "", api.ErrArg)
	}
	for i, row := range eventTable {
		for at := row.fields; at < 3; at++ {
			for _, n := range oddNumbers() {
				v, line := event(i+1, [3]int{}, "text")
				*[]*int{&v.A, &v.B, &v.C}[at] = n
				if n == 0 {
					checkEventText(t, v, line, api.OK)
				} else {
					checkEventText(t, v, "", api.ErrArg)
				}
			}
		}
		texts := goodTokens()
		if row.text {
			texts = badTokens()
		}
		for _, text := range texts {
			v, _ := event(i+1, [3]int{1, 2, 3}, text)
			v.Text = text
			checkEventText(t, v, "", api.ErrArg)
		}
	}
}

func TestLinesOfNoEvent(t *testing.T) {
	for _, line := range []string{"", " ", "0", "mount 1", "mounted", "mounted 1", "mounted 1 2 3", "mounted 1 2 ", "mounted  1 2", "Mounted 1 2", "drawn 1", "drawn x", "drawn 1 ", "drawn 1 x ", "drawn 1 x y", "drawn 1 2 3", "audited 1 2", "audited 1 x y", "audited", "drawn", "saved 1 x", "end", "error 4"} {
		checkParseEvent(t, line, api.Event{}, api.ErrSyntax)
	}
	for _, row := range eventTable {
		parts := append([]string{row.word}, slices.Repeat([]string{"5"}, row.fields)...)
		if row.text {
			parts = append(parts, "text")
		}
		for _, bad := range badNumerals() {
			for at := range row.fields {
				changed := slices.Clone(parts)
				changed[at+1] = bad
				checkParseEvent(t, strings.Join(changed, " "), api.Event{}, api.ErrSyntax)
			}
		}
		for _, bad := range badTokens() {
			changed := slices.Clone(parts)
			changed[len(changed)-1] = bad
			checkParseEvent(t, strings.Join(changed, " "), api.Event{}, api.ErrSyntax)
		}
		for count := range 8 {
			if count != len(parts)-1 {
				checkParseEvent(t, row.word+repeat(" 1", count), api.Event{}, api.ErrSyntax)
			}
		}
	}
}

// Each line is tried with small changes, and is parsed if and only if it has the form of one of an event.
func TestChangedLinesOfEvents(t *testing.T) {
	accepted := 0
	for i, row := range eventTable {
		_, line := event(i+1, [3]int{-10, 0, 345}, "07X")
		for _, changed := range mutants(line) {
			numbers := strings.Split(changed, " ")[1:]
			if row.text && len(numbers) > 0 {
				numbers = numbers[:len(numbers)-1]
			}
			want := eventForm.MatchString(changed) && fit(numbers)
			v, err := script.ParseEvent(changed)
			if want != (err == api.OK) || !want && (err != api.ErrSyntax || v != api.Event{}) {
				t.Errorf("ParseEvent(%q) = %v, %d", changed, v, err)
			}
			if want {
				accepted++
				checkEventText(t, v, changed, api.OK)
			}
		}
	}
	if accepted < 100 {
		t.Errorf("only %d changed lines are lines", accepted)
	}
}
