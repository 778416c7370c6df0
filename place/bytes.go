package place

import "errata/api"

// maxShort is how many bytes the greatest number takes that a tree is told by,
// MaxLine.
const maxShort = 3

// Told is the tree as bytes.
func (t *Tree) Told() string {
	if t.Len() == 0 {
		return ""
	}
	b := appendShort(nil, len(t.nodes)-1)
	for n, of := range t.nodes[1:] {
		b = appendShort(b, n+1-of.parent)
		b = appendShort(b, len(of.place.Name))
		b = append(b, of.place.Name...)
		b = appendShort(b, of.place.Line)
	}
	return string(b)
}

// appendShort appends a short number.
func appendShort(b []byte, n int) []byte {
	for ; n >= 128; n >>= 7 {
		b = append(b, byte(n)|128)
	}
	return append(b, byte(n))
}

// From is the tree that bytes are.
func From(s string) (*Tree, api.Errno) {
	r := reader{rest: s}
	t := New()
	for left := r.short(); left > 0 && !r.bad; left-- {
		at := t.Len() - r.short()
		name := r.take(r.short())
		if _, e := t.Push(at, Place{Name: name, Line: r.short()}); e != api.OK {
			r.bad = true
		}
	}
	// A tree has one form as bytes, and what is read takes some more (noughts
	// behind a number, a stack twice, more behind the end): it is held against
	// its own bytes.
	if r.bad || t.Told() != s {
		return nil, api.ErrForm
	}
	return t, api.OK
}

// reader takes things from the front of bytes. Once it is bad, what it answered
// counts for nothing.
type reader struct {
	rest string
	bad  bool
}

// take takes n bytes; none, if there are fewer.
func (r *reader) take(n int) string {
	if n > len(r.rest) {
		r.bad = true
		return ""
	}
	front := r.rest[:n]
	r.rest = r.rest[n:]
	return front
}

// short takes a short number.
func (r *reader) short() int {
	n := 0
	for i := range maxShort {
		c := r.take(1)
		if r.bad {
			return 0
		}
		n |= int(c[0]&127) << (7 * i)
		if c[0] < 128 {
			return n
		}
	}
	r.bad = true
	return 0
}
