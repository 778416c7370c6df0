package text

import (
	"strings"

	"errata/api"
)

// Unquote is the text that stands in quotes.
func Unquote(s string) (string, api.Errno) {
	t, n, e := Front(s)
	if e != api.OK || n != len(s) {
		return "", api.ErrForm
	}
	return t, api.OK
}

// Front is the text that stands in quotes at the front of bytes, and how many of these that takes.
func Front(s string) (t string, n int, e api.Errno) {
	t, n, ok := readQuotes(s)
	// A text has one way to be quoted. Whether a byte may stand as its digits
	// hangs on the bytes around it, so what was read is quoted anew and held
	// against what stood there.
	if !ok || Quote(t) != s[:n] {
		return "", 0, api.ErrForm
	}
	return t, n, api.OK
}

// readQuotes reads up to the quote that closes. It takes some forms that no
// quotes have; Front sees to these.
func readQuotes(s string) (t string, n int, ok bool) {
	if s == "" || s[0] != '"' {
		return "", 0, false
	}
	var b strings.Builder
	for at := 1; at < len(s); {
		if s[at] == '"' {
			return b.String(), at + 1, true
		}
		c, long, ok := readByte(s[at:])
		if !ok {
			return "", 0, false
		}
		b.WriteByte(c)
		at += long
	}
	return "", 0, false
}

// readByte is the byte that stands at the front of bytes that are not empty,
// and how many of these tell it.
func readByte(s string) (c byte, long int, ok bool) {
	switch {
	case s[0] != '\\':
		return s[0], 1, true
	case len(s) >= 2 && (s[1] == '\\' || s[1] == '"'):
		return s[1], 2, true
	case len(s) >= 4 && s[1] == 'x':
		high, low := strings.IndexByte(digits, s[2]), strings.IndexByte(digits, s[3])
		if high < 0 || low < 0 {
			return 0, 0, false
		}
		return byte(high<<4 | low), 4, true
	}
	return 0, 0, false
}
