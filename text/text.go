// Package text is layer 1: texts of any bytes, as they are told; see shared/doc/01-text.md.
package text

import (
	"iter"
	"strings"
	"unicode/utf8"
)

// broken is told in place of a rune where none begins.
const broken rune = -1

const digits = "0123456789abcdef"

// Runes goes through a text: where each rune begins, and it; -1 where none does.
func Runes(s string) iter.Seq2[int, rune] {
	return func(yield func(int, rune) bool) {
		for at, r := range s {
			if r == utf8.RuneError && breaks(s[at:]) {
				r = broken
			}
			if !yield(at, r) {
				return
			}
		}
	}
}

// breaks tells a break from a rune FFFD that was written: ranging over a text
// tells both as FFFD, and the length alone sets them apart.
func breaks(rest string) bool {
	_, n := utf8.DecodeRuneInString(rest)
	return n == 1
}

// Breaks is where no rune begins.
func Breaks(s string) []int {
	var places []int
	for at, r := range Runes(s) {
		if r == broken {
			places = append(places, at)
		}
	}
	return places
}

// Show is a text as it is shown.
func Show(s string) string {
	var b strings.Builder
	for at, r := range Runes(s) {
		writeShown(&b, r, s[at])
	}
	return b.String()
}

// Width is how many runes a text takes where it is shown.
func Width(s string) int {
	width := 0
	for _, r := range Runes(s) {
		width += widthOf(r)
	}
	return width
}

// Quote is a text in quotes.
func Quote(s string) string {
	var b strings.Builder
	b.WriteByte('"')
	for at, r := range Runes(s) {
		if r == '"' {
			b.WriteByte('\\')
		}
		writeShown(&b, r, s[at])
	}
	b.WriteByte('"')
	return b.String()
}

// writeShown shows one thing that is taken of a text; first is its first byte,
// which is all that a break has.
func writeShown(b *strings.Builder, r rune, first byte) {
	switch {
	case inDigits(r):
		b.WriteString(`\x`)
		b.WriteByte(digits[first>>4])
		b.WriteByte(digits[first&15])
	case r == '\\':
		b.WriteString(`\\`)
	default:
		b.WriteRune(r)
	}
}

// widthOf is how many runes writeShown writes.
func widthOf(r rune) int {
	switch {
	case inDigits(r):
		return 4
	case r == '\\':
		return 2
	}
	return 1
}

// inDigits says whether a thing is shown by its byte's digits.
func inDigits(r rune) bool {
	return r == broken || r < 0x20 || r == 0x7F
}
