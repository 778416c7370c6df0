package text

import (
	"iter"
	"strings"

	"errata/api"
)

// leastWidth has room for anything that is taken of a text, so that every part
// of a word has something in it.
const leastWidth = 4

// Cut is as much of a text as is shown in a width.
func Cut(s string, width int) string {
	n, _ := fits(s, width)
	// A copy, lest a short piece keep all of a long text.
	return strings.Clone(s[:n])
}

// fits is how many bytes of a text's front a width has room for, and how wide
// they are. It looks no further than that, so that a long word is parted in
// one passage.
func fits(s string, width int) (n, wide int) {
	for at, r := range Runes(s) {
		w := widthOf(r)
		if w > width-wide {
			return at, wide
		}
		wide += w
	}
	return len(s), wide
}

// Wrap is a text's lines, none wider than a width.
func Wrap(s string, width int) ([]string, api.Errno) {
	if width < leastWidth {
		return nil, api.ErrArg
	}
	var lines []string
	var line strings.Builder
	filled := 0
	for word, wide := range words(s, width) {
		if line.Len() > 0 && 1+wide > width-filled {
			lines = append(lines, line.String())
			line.Reset()
			filled = 0
		}
		if line.Len() > 0 {
			line.WriteByte(' ')
			filled++
		}
		line.WriteString(word)
		filled += wide
	}
	if line.Len() > 0 {
		lines = append(lines, line.String())
	}
	return lines, api.OK
}

// words goes through a text's words, the ones that are too wide in parts, each
// with its width. The width given is at least leastWidth.
func words(s string, width int) iter.Seq2[string, int] {
	return func(yield func(string, int) bool) {
		for word := range strings.FieldsFuncSeq(s, between) {
			for word != "" {
				n, wide := fits(word, width)
				if !yield(word[:n], wide) {
					return
				}
				word = word[n:]
			}
		}
	}
}

// between says whether a rune stands between words.
func between(r rune) bool { return r == ' ' || r == '\n' }
