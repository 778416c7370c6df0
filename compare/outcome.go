package compare

import (
	"errata/api"
	"errata/book"
	"errata/kinds"
)

// errorsOf are the errors of some handles.
func errorsOf(b *book.Book, hs []int) ([]error, api.Errno) {
	if b == nil {
		return nil, api.ErrNil
	}
	vs := make([]error, len(hs))
	for i, h := range hs {
		v, e := b.Error(h)
		if e != api.OK {
			return nil, e
		}
		vs[i] = v
	}
	return vs, api.OK
}

// outcomeOf is what a question comes to that may panic.
func outcomeOf(ask func() bool) (outcome int) {
	defer func() {
		if recover() != nil {
			outcome = api.Panics
		}
	}()
	if ask() {
		return api.Same
	}
	return api.Unlike
}

// compared is what == comes to of two values.
func compared(v, w error) int { return outcomeOf(func() bool { return v == w }) }

// canCompare tells whether the type of a value has ==, whatever the value holds.
func canCompare(v error) bool {
	switch v.(type) {
	case kinds.Tags, kinds.Lazy, kinds.Bag, kinds.Box[[]uint8]:
		return false
	}
	return true
}
