package text_test

import (
	"slices"

	"errata/text"
)

// thing is what is taken of a text: where it begins, its rune (-1 of a break), its bytes.
type thing struct {
	at    int
	r     rune
	bytes string
}

// form is a number's UTF-8 form, put together by hand: the tests lean on nothing that the package leans on.
func form(n int) string {
	tail := func(shift int) byte { return byte(0x80 | n>>shift&0x3F) }
	switch {
	case n < 0x80:
		return string([]byte{byte(n)})
	case n < 0x800:
		return string([]byte{byte(0xC0 | n>>6), tail(0)})
	case n < 0x10000:
		return string([]byte{byte(0xE0 | n>>12), tail(6), tail(0)})
	}
	return string([]byte{byte(0xF0 | n>>18), tail(12), tail(6), tail(0)})
}

// begins is the rune that begins where s does, as chapter 1 has it; false where none does.
func begins(s string) (n int, long int, ok bool) {
	lead := int(s[0])
	switch {
	case lead < 0x80:
		return lead, 1, true
	case lead >= 0xC0 && lead < 0xE0:
		n, long = lead&0x1F, 2
	case lead >= 0xE0 && lead < 0xF0:
		n, long = lead&0x0F, 3
	case lead >= 0xF0 && lead < 0xF8:
		n, long = lead&0x07, 4
	default:
		return 0, 0, false
	}
	if len(s) < long {
		return 0, 0, false
	}
	for i := 1; i < long; i++ {
		n = n<<6 | int(s[i])&0x3F
	}
	if n > 0x10FFFF || n >= 0xD800 && n <= 0xDFFF || form(n) != s[:long] {
		return 0, 0, false
	}
	return n, long, true
}

// things is all that is taken of a text.
func things(s string) []thing {
	var l []thing
	for at := 0; at < len(s); {
		n, long, ok := begins(s[at:])
		if !ok {
			n, long = -1, 1
		}
		l = append(l, thing{at, rune(n), s[at : at+long]})
		at += long
	}
	return l
}

// told is what Runes tells, with the bytes up to the next place.
func told(s string) []thing {
	var l []thing
	for at, r := range text.Runes(s) {
		l = append(l, thing{at: at, r: r})
	}
	for i := range l {
		end := len(s)
		if i+1 < len(l) {
			end = l[i+1].at
		}
		l[i].bytes = s[l[i].at:end]
	}
	return l
}

// shown is a thing as it is shown.
func shown(x thing) string {
	const digits = "0123456789abcdef"
	switch {
	case x.r < 0x20 || x.r == 0x7F:
		return `\x` + string([]byte{digits[x.bytes[0]/16], digits[x.bytes[0]%16]})
	case x.r == 0x5C:
		return `\\`
	}
	return x.bytes
}

// corpus is all texts of one byte, and of up to three of the pieces that matter.
func corpus() []string {
	pieces := []string{
		"a", "x", "7", "f", " ", "\n", "\t", "\x00", "\x1f", "\x7f", "\\", "\"",
		"\xff", "\x80", "\xc3", "\xa9", "\xe2\x82", "\xed\xa0", "\xf0\x90\x80",
		"\xc3\xa9", "\xe2\x82\xac", "\xef\xbf\xbd", "\xf4\x8f\xbf\xbf", "\xc2\x85",
	}
	all := []string{""}
	from := 0
	for range 3 {
		end := len(all)
		for _, s := range all[from:end] {
			for _, p := range pieces {
				all = append(all, s+p)
			}
		}
		from = end
	}
	for n := range 256 {
		all = append(all, string([]byte{byte(n)}))
	}
	slices.Sort(all)
	return slices.Compact(all)
}
