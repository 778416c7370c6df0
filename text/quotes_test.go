package text_test

import (
	"testing"

	"errata/api"
	"errata/text"
)

// P1.2: texts that are the quotes of a text.
func TestUnquoteExamples(t *testing.T) {
	for _, x := range []struct{ s, want string }{
		{`""`, ""},
		{`"a"`, "a"},
		{`"\xff"`, "\xff"},
		{`"\xc3"`, "\xc3"},
		{`"\xc3a"`, "\xc3a"},
		{`"\x00\x1f\x7f"`, "\x00\x1f\x7f"},
		{`"\\x41"`, `\x41`},
		{`"a\x0a\xff\\\""`, "a\n\xff\\\""},
		{`"\xe2\x82"`, "\xe2\x82"},
		{"\"\\xc3\xc3\xa9\"", "\xc3\xc3\xa9"},
		{"\"\xc3\xa9\\xa9\"", "\xc3\xa9\xa9"},
	} {
		if u, e := text.Unquote(x.s); u != x.want || e != api.OK {
			t.Errorf("Unquote(%s): %q, %d", x.s, u, e)
		}
	}
}

// P1.2: texts that are no quotes.
func TestUnquoteRefuses(t *testing.T) {
	for _, s := range []string{
		``, `"`, `a`, `"a`, `a"`, `"a"b`, `"a""`, ` "a"`, `"a" `, `'a'`, `"""`,
		`"\x41"`, `"\x20"`, `"\x22"`, `"\x5c"`, `"\x7e"`, // shown as themselves, or with a backslash
		`"\xFF"`, `"\xfF"`, `"\X0a"`, `"\x0A"`, // not the digits that are told
		`"\xc3\xa9"`, `"\xef\xbf\xbd"`, `"\xf4\x8f\xbf\xbf"`, // bytes that are a rune
		`"\"`, `"\\\"`, `"\`, `"\x"`, `"\x0"`, `"\x`, `"\x0`, `"\x0a`, `"\xg0"`, `"\x0g"`, `"\n"`, `"\q"`, `"\a"`, `"\u00e9"`, `"\'"`,
		"\"\n\"", "\"\x00\"", "\"\x7f\"", "\"\x1f\"", "\"\xff\"", "\"\xc3\"", "\"\xed\xa0\x80\"", // not shown
		"\"\xe2\x82\\xac\"", "\"\\xc3\xa9\"",
	} {
		if u, e := text.Unquote(s); u != "" || e != api.ErrForm {
			t.Errorf("Unquote(%q): %q, %d", s, u, e)
		}
	}
}

// P1.2.
func TestFront(t *testing.T) {
	for _, x := range []struct {
		s, want string
		n       int
	}{
		{`""`, "", 2},
		{`"""`, "", 2},
		{`"a\xff" rest"`, "a\xff", 7},
		{`"\"" "b"`, `"`, 4},
		{`"\\""`, `\`, 4},
		{"\"a\"\xff\n\\", "a", 3},
		{"\"\xc3\xa9\"", "\xc3\xa9", 4},
	} {
		if u, n, e := text.Front(x.s); u != x.want || n != x.n || e != api.OK {
			t.Errorf("Front(%q): %q, %d, %d", x.s, u, n, e)
		}
	}
	for _, s := range []string{``, `"`, `x"a"`, ` "a"`, `"a`, `"a\"`, `"\x41" "b"`, `"\xFF"x`, `"\xc3\xa9" `, "\"\xff\" ", `"\q" "a"`} {
		if u, n, e := text.Front(s); u != "" || n != 0 || e != api.ErrForm {
			t.Errorf("Front(%q): %q, %d, %d", s, u, n, e)
		}
	}
}

// P1.6: Unquote of Quote is the text, whatever stands behind its quotes.
func TestQuoteAndBack(t *testing.T) {
	for _, s := range corpus() {
		q := text.Quote(s)
		if u, e := text.Unquote(q); u != s || e != api.OK {
			t.Fatalf("Unquote(%q): %q, %d", q, u, e)
		}
		for _, behind := range []string{"", " ", `"`, `\`, `\"`, "\xff", "\n", `"a"`} {
			if u, n, e := text.Front(q + behind); u != s || n != len(q) || e != api.OK {
				t.Fatalf("Front(%q): %q, %d, %d", q+behind, u, n, e)
			}
		}
	}
}

// P1.6: Quote of what Unquote tells are the quotes, and there is nothing that
// Unquote takes beside the quotes of a text.
func TestUnquoteAndBack(t *testing.T) {
	pieces := []string{"a", "x", `\`, `\\`, `"`, `\x`, "0", "c3", "a9", "5c", "ff", "7f", "FF", "\xc3", "\xa9", "\xff", "\n"}
	bodies := []string{""}
	taken := 0
	for range 4 {
		var next []string
		for _, b := range bodies {
			for _, p := range pieces {
				next = append(next, b+p)
			}
		}
		for _, b := range next {
			q := `"` + b + `"`
			u, e := text.Unquote(q)
			switch {
			case e == api.OK && text.Quote(u) == q:
				taken++
			case e != api.ErrForm || u != "":
				t.Fatalf("Unquote(%q): %q, %d", q, u, e)
			}
		}
		bodies = next
	}
	if taken == 0 {
		t.Error("no quotes among them")
	}
}
