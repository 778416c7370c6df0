package value

import (
	"strconv"
	"strings"

	"errata/api"
	"errata/text"
)

// Parse is the value whose text it is.
func Parse(s string) (api.Value, api.Errno) {
	p := parser{rest: s, room: api.MaxTree}
	held := p.value(api.MaxNest)
	// What is read takes some forms that no text of a value has, numbers above
	// all. A value has one text: what was read is told anew, and held against
	// what stood there, to its end.
	if p.bad || textOf(held) != s {
		return api.Value{}, api.ErrForm
	}
	v := fromGo(held)
	if Check(v) != api.OK {
		return api.Value{}, api.ErrForm
	}
	return v, api.OK
}

// parser takes values from the front of a text. Once it is bad, what it
// answered counts for nothing.
type parser struct {
	rest string
	room int // how many more values there may be
	bad  bool
}

// fail gives up.
func (p *parser) fail() any {
	p.bad = true
	return nil
}

// eat takes what is handed to it, if it stands at the front.
func (p *parser) eat(front string) bool {
	rest, ok := strings.CutPrefix(p.rest, front)
	p.rest = rest
	return ok
}

// value takes a value; nest is how deep lists may stand in it.
func (p *parser) value(nest int) any {
	if p.room < 1 {
		return p.fail()
	}
	p.room--
	switch {
	case p.eat("["):
		return p.list(nest)
	case p.eat("("):
		return p.parts()
	case p.eat("x"):
		return p.pairs()
	case strings.HasPrefix(p.rest, `"`):
		return p.quoted()
	}
	return p.word()
}

// list takes a list's items and its end.
func (p *parser) list(nest int) any {
	if nest < 1 {
		return p.fail()
	}
	items := []any{}
	if p.eat("]") {
		return items
	}
	for !p.bad {
		items = append(items, p.value(nest-1))
		if p.eat("]") {
			return items
		}
		if !p.eat(", ") {
			return p.fail()
		}
	}
	return nil
}

// parts takes a complex number's parts and its end.
func (p *parser) parts() any {
	both, rest, ok := strings.Cut(p.rest, "i)")
	at := secondSign(both)
	if !ok || at < 0 {
		return p.fail()
	}
	p.rest = rest
	re, errRe := strconv.ParseFloat(both[:at], 64)
	// The + may be no more than the mark of where the second begins; +Inf, whose
	// own it is, is read without it, too, and NaN is not read with it.
	im, errIm := strconv.ParseFloat(strings.TrimPrefix(both[at:], "+"), 64)
	if errRe != nil || errIm != nil {
		return p.fail()
	}
	return complex(re, im)
}

// secondSign is where the second float of two begins: at the first sign that is
// neither the first float's own nor its exponent's; -1, if there is none.
func secondSign(both string) int {
	for i := 1; i < len(both); i++ {
		if (both[i] == '+' || both[i] == '-') && both[i-1] != 'e' {
			return i
		}
	}
	return -1
}

// pairs takes bytes: quotes, with two digits a byte in them.
func (p *parser) pairs() any {
	s, n, e := text.Front(p.rest)
	if e != api.OK || len(s)%2 != 0 {
		return p.fail()
	}
	p.rest = p.rest[n:]
	all := make([]byte, 0, len(s)/2)
	for i := 0; i < len(s); i += 2 {
		high, low := strings.IndexByte(digits, s[i]), strings.IndexByte(digits, s[i+1])
		if high < 0 || low < 0 {
			return p.fail()
		}
		all = append(all, byte(high<<4|low))
	}
	return all
}

// quoted takes a text's quotes.
func (p *parser) quoted() any {
	s, n, e := text.Front(p.rest)
	if e != api.OK {
		return p.fail()
	}
	p.rest = p.rest[n:]
	return s
}

// word takes what stands ahead of a list's next comma or end: a value that has
// neither in it.
func (p *parser) word() any {
	end := strings.IndexAny(p.rest, ",]")
	if end < 0 {
		end = len(p.rest)
	}
	w := p.rest[:end]
	p.rest = p.rest[end:]
	switch w {
	case "none":
		return nil
	case "true", "false":
		return w == "true"
	}
	if n, err := strconv.ParseInt(w, 10, 64); err == nil {
		return n
	}
	x, err := strconv.ParseFloat(w, 64)
	if err != nil {
		return p.fail()
	}
	return x
}
