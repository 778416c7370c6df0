package kinds

import (
	"maps"
	"slices"
	"strconv"
	"strings"

	"errata/value"
)

// The texts of errors, out of what they are told of. They stand apart from the
// methods, so that a text's length is known without a method being called.

const (
	lineText  = "line"
	quietText = "quiet"
	tagsWord  = "tags"
	veilText  = "veil"
	boxWord   = "box"

	// between stands between a text and its cause's.
	between = ": "

	digits = "0123456789abcdef"
)

func codeText(n int16) string { return "code " + decimal(n) }

func levelText(x float64) string { return "level " + value.Float(x) }

func swayText(x complex128) string { return "sway " + value.Complex(x) }

func twinText(n int16, x float64) string { return "twin " + decimal(n) + " " + value.Float(x) }

func fullText(text string) string { return "full" + between + text }

func decimal(n int16) string { return strconv.Itoa(int(n)) }

func markText(m [4]uint8) string {
	var b strings.Builder
	b.WriteString("mark ")
	for _, c := range m {
		b.WriteByte(digits[c>>4])
		b.WriteByte(digits[c&15])
	}
	return b.String()
}

func tagsText(m map[string]int16) string {
	var b strings.Builder
	b.WriteString(tagsWord)
	for _, key := range slices.Sorted(maps.Keys(m)) {
		b.WriteString(" " + key + "=" + decimal(m[key]))
	}
	return b.String()
}

// causedText is a text and, behind it, what its cause's Error tells.
func causedText(text string, cause error) string {
	if cause == nil {
		return text
	}
	return text + between + cause.Error()
}

func joinText(parts []error) string {
	var told []string
	for _, part := range parts {
		if part != nil {
			told = append(told, part.Error())
		}
	}
	return strings.Join(told, "\n")
}

// boxText is the text of a Box around what a pointer points to. Handed the item
// itself it would take one of an interface type for what that holds.
func boxText(item any) string {
	switch x := item.(type) {
	case *int8:
		return boxWord + " " + decimal(int16(*x))
	case *float64:
		return boxWord + " " + value.Float(*x)
	case *[]uint8:
		return boxWord + " " + string(*x)
	}
	return boxWord
}
