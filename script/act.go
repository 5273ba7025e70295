package script

import (
	"slices"
	"strings"

	"guilloche/api"
)

// actForm is the word of a kind of act, how many of the fields from A on it uses, and how many numbers its Keep may have.
type actForm struct {
	word         string
	fields, keep int
}

// actForms has a form for each kind, and none for the kind 0.
var actForms = [...]actForm{
	api.ActMount:   {"mount", 1, 0},
	api.ActPrint:   {"print", 2, 0},
	api.ActTick:    {"tick", 0, 0},
	api.ActSpoil:   {"spoil", 2, 0},
	api.ActRepair:  {"repair", 2, 0},
	api.ActInspect: {"inspect", 4, 0},
	api.ActCut:     {"cut", 1, 0},
	api.ActBegin:   {"begin", 0, 0},
	api.ActLook:    {"look", 3, 0},
	api.ActMove:    {"move", 5, 0},
	api.ActCommit:  {"commit", 1, 0},
	api.ActAbort:   {"abort", 1, 0},
	api.ActDestroy: {"destroy", 4, 0},
	api.ActAudit:   {"audit", 3, 0},
	api.ActSave:    {"save", 0, 0},
	api.ActCheck:   {"check", 0, 0},
	api.ActCrash:   {"crash", 0, api.MaxKeep},
}

// Text returns the line of an act.
func Text(a api.Act) (string, api.Errno) {
	if a.Kind <= 0 || a.Kind >= len(actForms) {
		return "", api.ErrArg
	}
	f, fields := actForms[a.Kind], []int{a.A, a.B, a.C, a.D, a.E}
	if !areZero(fields[f.fields:]) || len(a.Keep) > f.keep {
		return "", api.ErrArg
	}
	return joinLine(f.word, slices.Concat(fields[:f.fields], a.Keep)), api.OK
}

// Parse returns the act of a line.
func Parse(line string) (api.Act, api.Errno) {
	parts := strings.Split(line, " ")
	kind, known := findAct(parts[0])
	numbers, ok := readNumbers(parts[1:])
	if !known || !ok || !takes(kind, len(numbers)) {
		return api.Act{}, api.ErrSyntax
	}
	return newAct(kind, numbers), api.OK
}

// findAct returns the kind of acts with that word.
func findAct(word string) (int, bool) {
	for kind, f := range actForms {
		if kind > 0 && f.word == word {
			return kind, true
		}
	}
	return 0, false
}

// takes reports whether an act of that kind may have that many numbers.
func takes(kind, count int) bool {
	f := actForms[kind]
	return count >= f.fields && count <= f.fields+f.keep
}

// newAct returns the act of that kind with these numbers, which it takes.
func newAct(kind int, numbers []int) api.Act {
	var fields [5]int
	used := copy(fields[:actForms[kind].fields], numbers)
	a := api.Act{Kind: kind, A: fields[0], B: fields[1], C: fields[2], D: fields[3], E: fields[4]}
	a.Keep = append(a.Keep, numbers[used:]...)
	return a
}
