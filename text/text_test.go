package text_test

import (
	"slices"
	"strings"
	"testing"

	"errata/api"
	"errata/text"
)

// The section 'Errors'.
func TestErrors(t *testing.T) {
	if api.OK != 0 || api.ErrArg != 1 || api.ErrForm != 4 {
		t.Error(api.OK, api.ErrArg, api.ErrForm)
	}
}

// P1.1.
func TestRunesExamples(t *testing.T) {
	for _, x := range []struct {
		s    string
		want []thing
	}{
		{"", nil},
		{"a\xc3\xa9\xff\x80", []thing{{0, 'a', "a"}, {1, 0xE9, "\xc3\xa9"}, {3, -1, "\xff"}, {4, -1, "\x80"}}},
		{"\xed\xa0\x80", []thing{{0, -1, "\xed"}, {1, -1, "\xa0"}, {2, -1, "\x80"}}},
		{"\xed\xbf\xbf", []thing{{0, -1, "\xed"}, {1, -1, "\xbf"}, {2, -1, "\xbf"}}},
		{"\xc0\x80", []thing{{0, -1, "\xc0"}, {1, -1, "\x80"}}},
		{"\xf4\x90\x80\x80", []thing{{0, -1, "\xf4"}, {1, -1, "\x90"}, {2, -1, "\x80"}, {3, -1, "\x80"}}},
		{"\xef\xbf\xbd", []thing{{0, 0xFFFD, "\xef\xbf\xbd"}}},
		{"\xef\xbf\xbd\xef\xbf", []thing{{0, 0xFFFD, "\xef\xbf\xbd"}, {3, -1, "\xef"}, {4, -1, "\xbf"}}},
		{"\x00\x7f", []thing{{0, 0, "\x00"}, {1, 0x7F, "\x7f"}}},
		{"\xe2\x82a", []thing{{0, -1, "\xe2"}, {1, -1, "\x82"}, {2, 'a', "a"}}},
	} {
		if l := told(x.s); !slices.Equal(l, x.want) {
			t.Errorf("Runes(%q): %v", x.s, l)
		}
	}
}

// P1.1: every number has its rune, but those from D800 to DFFF and past 10FFFF.
func TestRunesOfEveryNumber(t *testing.T) {
	for n := range 0x110100 {
		s := form(n)
		want := things(s)
		if is := n <= 0x10FFFF && (n < 0xD800 || n > 0xDFFF); is != (len(want) == 1) {
			t.Fatalf("the tests' own runes: %x", n)
		}
		if l := told(s); !slices.Equal(l, want) {
			t.Fatalf("%x: %v", n, l)
		}
	}
}

// P1.1: whatever two bytes, and whatever four of the bytes at the bounds.
func TestRunesOfBytes(t *testing.T) {
	for n := range 1 << 16 {
		s := string([]byte{byte(n >> 8), byte(n)})
		if l := told(s); !slices.Equal(l, things(s)) {
			t.Fatalf("%x: %v", s, l)
		}
	}
	bounds := "a\x7f\x80\x8f\x90\x9f\xa0\xbf\xc0\xc1\xc2\xdf\xe0\xed\xee\xef\xf0\xf1\xf3\xf4\xf5\xf8\xff"
	k := len(bounds)
	for n := range k * k * k * k {
		s := string([]byte{bounds[n%k], bounds[n/k%k], bounds[n/k/k%k], bounds[n/k/k/k]})
		if l := told(s); !slices.Equal(l, things(s)) {
			t.Fatalf("%x: %v", s, l)
		}
	}
}

// P1.1, with R8: gone over again, while another round is on, and left anywhere.
func TestRunesRounds(t *testing.T) {
	seq := text.Runes("a\xff\xc3\xa9")
	want := []rune{'a', -1, 0xE9}
	for stop := range len(want) {
		var got []rune
		for _, r := range seq {
			var inner []rune
			for _, q := range seq {
				inner = append(inner, q)
			}
			if !slices.Equal(inner, want) {
				t.Fatalf("within: %v", inner)
			}
			got = append(got, r)
			if len(got) > stop {
				break
			}
		}
		if !slices.Equal(got, want[:stop+1]) {
			t.Errorf("left at %d: %v", stop, got)
		}
	}
}

// P1.1.
func TestBreaks(t *testing.T) {
	for _, x := range []struct {
		s    string
		want []int
	}{
		{"", nil},
		{"abc", nil},
		{"\xef\xbf\xbd", nil},
		{"a\xff\xc3\xa9\xc3", []int{1, 4}},
		{"\xed\xa0\x80", []int{0, 1, 2}},
		{"\xf4\x90\x80\x80", []int{0, 1, 2, 3}},
	} {
		if l := text.Breaks(x.s); !slices.Equal(l, x.want) {
			t.Errorf("Breaks(%q): %v", x.s, l)
		}
	}
	for _, s := range corpus() {
		var want []int
		for _, x := range things(s) {
			if x.r == -1 {
				want = append(want, x.at)
			}
		}
		if l := text.Breaks(s); !slices.Equal(l, want) {
			t.Fatalf("Breaks(%q): %v", s, l)
		}
	}
}

// P1.2.
func TestShowExamples(t *testing.T) {
	for _, x := range []struct {
		s, show, quote string
		width          int
	}{
		{"", ``, `""`, 0},
		{"a\n\xff\\\"", `a\x0a\xff\\"`, `"a\x0a\xff\\\""`, 12},
		{"\x00\x1f \x7e\x7f", "\\x00\\x1f \x7e\\x7f", "\"\\x00\\x1f \x7e\\x7f\"", 14},
		{"\xc2\x80\xc2\x9f", "\xc2\x80\xc2\x9f", "\"\xc2\x80\xc2\x9f\"", 2},
		{"\xef\xbf\xbd\x80", "\xef\xbf\xbd\\x80", "\"\xef\xbf\xbd\\x80\"", 5},
		{"\xed\xa0\x80", `\xed\xa0\x80`, `"\xed\xa0\x80"`, 12},
		{"\xf4\x8f\xbf\xbf", "\xf4\x8f\xbf\xbf", "\"\xf4\x8f\xbf\xbf\"", 1},
		{`\x41`, `\\x41`, `"\\x41"`, 5},
		{`""`, `""`, `"\"\""`, 2},
	} {
		if text.Show(x.s) != x.show || text.Quote(x.s) != x.quote || text.Width(x.s) != x.width {
			t.Errorf("%q: %s, %s, %d", x.s, text.Show(x.s), text.Quote(x.s), text.Width(x.s))
		}
	}
}

// P1.2: as the words of the chapter have it.
func TestShowAll(t *testing.T) {
	for _, s := range corpus() {
		show, quote := "", ""
		for _, x := range things(s) {
			show += shown(x)
			if x.r == '"' {
				quote += `\`
			}
			quote += shown(x)
		}
		if text.Show(s) != show || text.Quote(s) != `"`+quote+`"` || text.Width(s) != len(things(show)) {
			t.Fatalf("%q: %s, %s, %d", s, text.Show(s), text.Quote(s), text.Width(s))
		}
	}
}

// P1.6: what is shown is clean, and unlike texts are shown unlike.
func TestShowIsClean(t *testing.T) {
	of := map[string]string{}
	for _, s := range corpus() {
		show := text.Show(s)
		for _, x := range things(show) {
			if x.r < 0x20 || x.r == 0x7F {
				t.Fatalf("%q is shown with %q", s, x.bytes)
			}
		}
		if other, ok := of[show]; ok {
			t.Fatalf("%q and %q are shown alike", s, other)
		}
		of[show] = s
	}
}

// P1.7: what Runes tells is the whole text, a break is one byte, widths add up.
func TestParts(t *testing.T) {
	for _, s := range corpus() {
		whole, width := "", 0
		for _, x := range told(s) {
			if x.at != len(whole) || x.r == -1 && len(x.bytes) != 1 {
				t.Fatalf("%q: %v", s, x)
			}
			whole += x.bytes
			width += text.Width(x.bytes)
		}
		if whole != s || text.Width(s) != width {
			t.Fatalf("%q: %q, %d", s, whole, width)
		}
	}
}

// A long text is gone through in one passage.
func TestLong(t *testing.T) {
	s := strings.Repeat("a\xff", 1<<17)
	if text.Width(s) != 5<<17 || len(text.Show(s)) != 5<<17 || len(text.Breaks(s)) != 1<<17 {
		t.Error(text.Width(s))
	}
	if u, e := text.Unquote(text.Quote(s)); u != s || e != api.OK {
		t.Error(e)
	}
	if l, e := text.Wrap(s, 4); len(l) != 1<<18 || e != api.OK {
		t.Error(len(l), e)
	}
}
