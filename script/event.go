package script

import (
	"strings"

	"guilloche/api"
)

// eventForm is the word of a kind of event, how many of the fields from A on it uses, and whether it uses Text.
type eventForm struct {
	word   string
	fields int
	text   bool
}

// eventForms has a form for each kind, and none for the kind 0.
var eventForms = [...]eventForm{
	api.EvMounted:   {"mounted", 2, false},
	api.EvPrinted:   {"printed", 3, false},
	api.EvDried:     {"dried", 2, false},
	api.EvSpoiled:   {"spoiled", 1, false},
	api.EvReprinted: {"reprinted", 1, false},
	api.EvReplaced:  {"replaced", 2, false},
	api.EvOpened:    {"opened", 1, false},
	api.EvRepaired:  {"repaired", 2, false},
	api.EvInspected: {"inspected", 3, false},
	api.EvCut:       {"cut", 3, false},
	api.EvBegun:     {"begun", 1, false},
	api.EvRun:       {"run", 3, false},
	api.EvLooked:    {"looked", 3, false},
	api.EvMoved:     {"moved", 3, false},
	api.EvRefused:   {"refused", 1, false},
	api.EvWaits:     {"waits", 1, false},
	api.EvGranted:   {"granted", 1, false},
	api.EvCommitted: {"committed", 2, false},
	api.EvAborted:   {"aborted", 1, false},
	api.EvDestroyed: {"destroyed", 2, false},
	api.EvDrawn:     {"drawn", 1, true},
	api.EvAudited:   {"audited", 2, true},
	api.EvSaved:     {"saved", 1, false},
	api.EvChecked:   {"checked", 1, false},
	api.EvRecovered: {"recovered", 1, false},
}

// EventText returns the line of an event.
func EventText(v api.Event) (string, api.Errno) {
	if v.Kind <= 0 || v.Kind >= len(eventForms) {
		return "", api.ErrArg
	}
	f, fields := eventForms[v.Kind], []int{v.A, v.B, v.C}
	if !areZero(fields[f.fields:]) {
		return "", api.ErrArg
	}
	switch {
	case f.text && isToken(v.Text):
		return joinLine(f.word, fields[:f.fields], v.Text), api.OK
	case !f.text && v.Text == "":
		return joinLine(f.word, fields[:f.fields]), api.OK
	}
	return "", api.ErrArg
}

// ParseEvent returns the event of a line.
func ParseEvent(line string) (api.Event, api.Errno) {
	parts := strings.Split(line, " ")
	kind, known := findEvent(parts[0])
	if !known {
		return api.Event{}, api.ErrSyntax
	}
	f, v, rest := eventForms[kind], api.Event{Kind: kind}, parts[1:]
	if f.text {
		last := len(rest) - 1
		if last < 0 || !isToken(rest[last]) {
			return api.Event{}, api.ErrSyntax
		}
		v.Text, rest = rest[last], rest[:last]
	}
	numbers, ok := readNumbers(rest)
	if !ok || len(numbers) != f.fields {
		return api.Event{}, api.ErrSyntax
	}
	var fields [3]int
	copy(fields[:], numbers)
	v.A, v.B, v.C = fields[0], fields[1], fields[2]
	return v, api.OK
}

// findEvent returns the kind of events with that word.
func findEvent(word string) (int, bool) {
	for kind, f := range eventForms {
		if kind > 0 && f.word == word {
			return kind, true
		}
	}
	return 0, false
}
