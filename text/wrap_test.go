package text_test

import (
	"math"
	"slices"
	"strings"
	"testing"

	"errata/api"
	"errata/text"
)

// P1.3.
func TestCutExamples(t *testing.T) {
	for _, x := range []struct {
		s     string
		width int
		want  string
	}{
		{"ab\xff", 5, "ab"},
		{"ab\xff", 6, "ab\xff"},
		{"ab\xff", 0, ""},
		{"ab\xff", -1, ""},
		{"ab\xff", math.MinInt, ""},
		{"ab\xff", math.MaxInt, "ab\xff"},
		{"", 5, ""},
		{"\xc3\xa9", 1, "\xc3\xa9"},
		{"\xc3\xa9a", 1, "\xc3\xa9"},
		{"\\a", 1, ""},
		{"\\a", 2, "\\"},
		{"\x7fa", 3, ""},
		{"\na", 4, "\n"},
		{"a\nb", 4, "a"}, // b would find room, but what stands ahead of it does not
		{"\"a", 1, "\""},
	} {
		if c := text.Cut(x.s, x.width); c != x.want {
			t.Errorf("Cut(%q, %d): %q", x.s, x.width, c)
		}
	}
}

// P1.3, P1.7: as many things as go; a beginning; a wider one begins with a narrower one; the whole at the whole width.
func TestCutAll(t *testing.T) {
	for _, s := range corpus() {
		full := text.Width(s)
		last := ""
		for width := -1; width <= full+1; width++ {
			want, room := "", width
			for _, x := range things(s) {
				room -= len(things(shown(x)))
				if room < 0 {
					break
				}
				want += x.bytes
			}
			c := text.Cut(s, width)
			if c != want || !strings.HasPrefix(s, c) || !strings.HasPrefix(c, last) {
				t.Fatalf("Cut(%q, %d): %q", s, width, c)
			}
			last = c
		}
		if text.Cut(s, full) != s {
			t.Fatalf("Cut(%q, %d): %q", s, full, text.Cut(s, full))
		}
	}
}

// P1.4.
func TestWrapExamples(t *testing.T) {
	for _, x := range []struct {
		s     string
		width int
		want  []string
	}{
		{"to be  or not", 5, []string{"to be", "or", "not"}},
		{"abcdefgh ij", 4, []string{"abcd", "efgh", "ij"}},
		{" ", 4, nil},
		{"", 4, nil},
		{" \n\n ", 4, nil},
		{"a", 4, []string{"a"}},
		{"\n a\nb ", 4, []string{"a b"}},
		{"ab c", 4, []string{"ab c"}},
		{"ab cd", 4, []string{"ab", "cd"}},
		{"ab cd", 5, []string{"ab cd"}},
		{"abcdef g", 4, []string{"abcd", "ef g"}},
		{"a bcdef", 5, []string{"a", "bcdef"}},
		{"a bcdefg", 5, []string{"a", "bcdef", "g"}},
		{"a\tb\rc", 20, []string{"a\tb\rc"}},
		{"a\xffb", 4, []string{"a", "\xff", "b"}},
		{"a\xffb", 5, []string{"a\xff", "b"}},
		{"\xff\xff", 4, []string{"\xff", "\xff"}},
		{"\\\\\\ \\", 4, []string{"\\\\", "\\", "\\"}},
		{"\\ \\", 5, []string{"\\ \\"}},
		{"\xc3\xa9\xc3\xa9 \xc3\xa9", 4, []string{"\xc3\xa9\xc3\xa9 \xc3\xa9"}},
		{"\xc2\xa0a", 4, []string{"\xc2\xa0a"}}, // a blank of another kind parts nothing
		{"a b", math.MaxInt, []string{"a b"}},
	} {
		if l, e := text.Wrap(x.s, x.width); !slices.Equal(l, x.want) || e != api.OK {
			t.Errorf("Wrap(%q, %d): %q, %d", x.s, x.width, l, e)
		}
	}
	for _, width := range []int{3, 2, 1, 0, -1, -4, math.MinInt} {
		for _, s := range []string{"", "a", "to be"} {
			if l, e := text.Wrap(s, width); l != nil || e != api.ErrArg {
				t.Errorf("Wrap(%q, %d): %q, %d", s, width, l, e)
			}
		}
	}
}

// parted is a text's words, those that are too wide in parts.
func parted(s string, width int) []string {
	var words []string
	for _, w := range strings.Split(strings.ReplaceAll(s, "\n", " "), " ") {
		for text.Width(w) > width {
			c := text.Cut(w, width)
			words = append(words, c)
			w = w[len(c):]
		}
		if w != "" {
			words = append(words, w)
		}
	}
	return words
}

// P1.4, P1.8: no line is too wide, or has room for the next word; the words are the text's; wrapped again, the lines are the same.
func TestWrapAll(t *testing.T) {
	for _, s := range corpus() {
		s += " " + s + "bc\n" + s
		for _, width := range []int{4, 5, 6, 9, 40} {
			lines, e := text.Wrap(s, width)
			if e != api.OK {
				t.Fatalf("Wrap(%q, %d): %d", s, width, e)
			}
			var words []string
			for i, line := range lines {
				of := strings.Split(line, " ")
				if i > 0 && text.Width(lines[i-1]+" "+of[0]) <= width || text.Width(line) > width {
					t.Fatalf("Wrap(%q, %d): %q, at line %d", s, width, lines, i)
				}
				words = append(words, of...)
			}
			if !slices.Equal(words, parted(s, width)) {
				t.Fatalf("Wrap(%q, %d): %q", s, width, lines)
			}
			again, e := text.Wrap(strings.Join(lines, " "), width)
			if !slices.Equal(again, lines) || e != api.OK {
				t.Fatalf("Wrap(%q, %d) again: %q, %d", s, width, again, e)
			}
		}
	}
}

// P1.8: where no word is wider than width, the words of the lines are those of the text.
func TestWrapKeepsWords(t *testing.T) {
	s := " so  \xff it\ngoes \\ on\n\nand \xc3\xa9 on "
	for width := 4; width < 40; width++ {
		lines, e := text.Wrap(s, width)
		if e != api.OK || !slices.Equal(strings.Fields(strings.Join(lines, " ")), strings.Fields(s)) {
			t.Errorf("Wrap(%q, %d): %q, %d", s, width, lines, e)
		}
	}
}

// R3: no two lists that were handed out share memory.
func TestNewMemory(t *testing.T) {
	s := "a\xff b\xff c\xff"
	one, _ := text.Wrap(s, 6)
	two, _ := text.Wrap(s, 6)
	one[0] = "other"
	if two[0] == "other" {
		t.Error("lines are shared")
	}
	places, others := text.Breaks(s), text.Breaks(s)
	places[0] = -5
	if others[0] == -5 {
		t.Error("places are shared")
	}
}
