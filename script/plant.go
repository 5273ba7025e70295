package script

import (
	"strconv"
	"strings"

	"guilloche/api"
)

// plantWords are the words of the lines of a plant, in order.
var plantWords = [...]string{"alphabet", "length", "banned", "check", "layout", "costs", "sheets", "presses", "life", "plates", "dry", "vaults", "blocks"}

// plantFields returns where the parts of each line of a plant are kept, so that texts are written and read by the same list.
func plantFields(p *api.Plant) [len(plantWords)][]any {
	return [len(plantWords)][]any{
		{&p.Scheme.Alphabet},
		{&p.Scheme.Length},
		{&p.Scheme.Banned},
		{&p.Scheme.Check},
		{&p.Layout.Rows, &p.Layout.Cols, &p.Layout.Ream, &p.Layout.Bundle, &p.Layout.Down},
		{&p.Costs.Reprint, &p.Costs.Star, &p.Costs.Open},
		{&p.Sheets},
		{&p.Presses},
		{&p.Life},
		{&p.Plates},
		{&p.Dry},
		{&p.Vaults},
		{&p.Blocks},
	}
}

// PlantText returns the text of a plant.
func PlantText(p api.Plant) (string, api.Errno) {
	if !isToken(p.Scheme.Alphabet) || !areTokens(p.Scheme.Banned) {
		return "", api.ErrArg
	}
	var text strings.Builder
	for i, fields := range plantFields(&p) {
		text.WriteString(plantWords[i])
		for _, field := range fields {
			for _, part := range partsOf(field) {
				text.WriteString(" " + part)
			}
		}
		text.WriteString("\n")
	}
	return text.String(), api.OK
}

// partsOf returns the parts of a line that stand for a field.
func partsOf(field any) []string {
	switch f := field.(type) {
	case *int:
		return []string{strconv.Itoa(*f)}
	case *bool:
		if *f {
			return []string{"1"}
		}
		return []string{"0"}
	case *string:
		return []string{*f}
	case *[]string:
		return *f
	}
	return nil
}

// ParsePlant returns the plant of a text, or the position of the first line that is wrong.
func ParsePlant(text string) (api.Plant, int, api.Errno) {
	var p api.Plant
	for i, fields := range plantFields(&p) {
		line, rest, ended := strings.Cut(text, "\n")
		if !ended || !readPlantLine(line, plantWords[i], fields) {
			return api.Plant{}, i + 1, api.ErrSyntax
		}
		text = rest
	}
	if text != "" {
		return api.Plant{}, len(plantWords) + 1, api.ErrSyntax
	}
	return p, 0, api.OK
}

// readPlantLine sets the fields of a line, and reports whether the line is as described.
func readPlantLine(line, word string, fields []any) bool {
	parts := strings.Split(line, " ")
	if parts[0] != word {
		return false
	}
	rest := parts[1:]
	for _, field := range fields {
		count, ok := readField(field, rest)
		if !ok {
			return false
		}
		rest = rest[count:]
	}
	return len(rest) == 0
}

// readField sets a field to what the first parts say, and returns how many these are. A list takes all of them.
func readField(field any, parts []string) (int, bool) {
	if list, ok := field.(*[]string); ok {
		*list = append(*list, parts...)
		return len(parts), areTokens(parts)
	}
	if len(parts) == 0 {
		return 0, false
	}
	ok := false
	switch f := field.(type) {
	case *int:
		*f, ok = readNumber(parts[0])
	case *bool:
		*f, ok = parts[0] == "1", parts[0] == "0" || parts[0] == "1"
	case *string:
		*f, ok = parts[0], isToken(parts[0])
	}
	return 1, ok
}
