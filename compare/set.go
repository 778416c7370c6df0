package compare

import (
	"errata/api"
	"errata/book"
)

// Set is a set of errors.
type Set struct {
	book *book.Book
	in   map[error]struct{}
}

// New makes a set without errors.
func New(b *book.Book) (*Set, api.Errno) {
	if b == nil {
		return nil, api.ErrNil
	}
	return &Set{book: b, in: map[error]struct{}{}}, api.OK
}

// find is the error of a handle, and whether one like it is in: Panics, if it
// may not be a key.
func (s *Set) find(h int) (v error, outcome int, e api.Errno) {
	if s == nil {
		return nil, 0, api.ErrNil
	}
	v, e = s.book.Error(h)
	if e != api.OK {
		return nil, 0, e
	}
	outcome = outcomeOf(func() bool {
		_, in := s.in[v]
		return in
	})
	return v, outcome, api.OK
}

// Put puts an error in.
func (s *Set) Put(h int) (int, api.Errno) {
	v, outcome, e := s.find(h)
	if outcome == api.Unlike {
		s.in[v] = struct{}{}
	}
	return outcome, e
}

// Has is whether one like it is in.
func (s *Set) Has(h int) (int, api.Errno) {
	_, outcome, e := s.find(h)
	return outcome, e
}

// Drop takes it out.
func (s *Set) Drop(h int) (int, api.Errno) {
	v, outcome, e := s.find(h)
	if outcome == api.Same {
		delete(s.in, v)
	}
	return outcome, e
}

// Len is how many are in.
func (s *Set) Len() int {
	if s == nil {
		return 0
	}
	return len(s.in)
}

// Clear takes all out.
func (s *Set) Clear() {
	if s != nil {
		clear(s.in)
	}
}
