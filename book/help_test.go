package book_test

import (
	"fmt"
	"math"
	"reflect"
	"slices"
	"strings"
	"testing"

	"errata/api"
	"errata/book"
	"errata/kinds"
)

var (
	nan    = math.NaN()
	minus0 = math.Copysign(0, -1)
)

// long is a word as long as may be.
var long = strings.Repeat("x", api.MaxWord)

// put makes an error that must be made: its handle.
func put(t testing.TB, b *book.Book, s api.Spec) int {
	t.Helper()
	h, e := b.Make(s)
	if e != api.OK || h != b.Len() {
		t.Fatalf("Make of kind %d with parts %v: %d, %d; %d errors", s.Kind, s.Parts, h, e, b.Len())
	}
	return h
}

// refused is a Make that must be refused, with nothing made.
func refused(t testing.TB, b *book.Book, s api.Spec, want api.Errno) {
	t.Helper()
	n := b.Len()
	if h, e := b.Make(s); h != 0 || e != want {
		t.Errorf("Make of kind %d with parts %.80v: %d, %d; want %d", s.Kind, s.Parts, h, e, want)
	}
	if b.Len() != n {
		t.Errorf("Make of kind %d with parts %.80v: %d errors, then %d", s.Kind, s.Parts, n, b.Len())
	}
}

// errorOf is the error of a handle that there must be.
func errorOf(t testing.TB, b *book.Book, h int) error {
	t.Helper()
	v, e := b.Error(h)
	if e != api.OK {
		t.Fatalf("Error(%d): %d", h, e)
	}
	return v
}

func note(text string) api.Spec { return api.Spec{Kind: api.KindNote, Text: text} }

func wrap(text string, part ...int) api.Spec {
	return api.Spec{Kind: api.KindWrap, Text: text, Parts: part}
}

func join(parts ...int) api.Spec { return api.Spec{Kind: api.KindJoin, Parts: parts} }

func times(h, n int) []int { return slices.Repeat([]int{h}, n) }

// wraps puts so many wraps about an error, each about the last.
func wraps(t testing.TB, b *book.Book, h, n int) int {
	t.Helper()
	for range n {
		h = put(t, b, wrap("", h))
	}
	return h
}

// told is all that a book tells of a handle, but for the error itself.
type told struct {
	spec                api.Spec
	kind                uint8
	parts               []int
	size, depth, length int
}

func tellAll(t testing.TB, b *book.Book, h int) told {
	t.Helper()
	var x told
	var e [6]api.Errno
	x.spec, e[0] = b.Spec(h)
	x.kind, e[1] = b.Kind(h)
	x.parts, e[2] = b.Parts(h)
	x.size, e[3] = b.Size(h)
	x.depth, e[4] = b.Depth(h)
	x.length, e[5] = b.Length(h)
	if e != [6]api.Errno{} {
		t.Fatalf("of the handle %d: %d", h, e)
	}
	return x
}

// alike is whether two specs are, field by field, floats by their bits.
func alike(a, b api.Spec) bool {
	bits := func(s api.Spec) [2]uint64 { return [2]uint64{math.Float64bits(s.Re), math.Float64bits(s.Im)} }
	if bits(a) != bits(b) || !slices.Equal(a.Items, b.Items) || !slices.Equal(a.Parts, b.Parts) {
		return false
	}
	for _, s := range []*api.Spec{&a, &b} {
		s.Re, s.Im, s.Items, s.Parts = 0, 0, nil, nil
	}
	return reflect.DeepEqual(a, b)
}

// same is whether two errors are the very same: by ==, or, where that panics or
// is false of one and itself, by all that is in them, pointers by their addresses.
func same(a, b error) (is bool) {
	inside := func() bool { return fmt.Sprintf("%T %#v", a, a) == fmt.Sprintf("%T %#v", b, b) }
	defer func() {
		if recover() != nil {
			is = inside()
		}
	}()
	return a == b || a != a && inside()
}

// kindOf is the kind whose type it is, by a type switch.
func kindOf(e error) uint8 {
	switch e.(type) {
	case kinds.Code:
		return 1
	case kinds.Note:
		return 2
	case kinds.Level:
		return 3
	case kinds.Sway:
		return 4
	case kinds.Mark:
		return 5
	case kinds.Tags:
		return 6
	case kinds.Lazy:
		return 7
	case kinds.Line:
		return 8
	case *kinds.Plain:
		return 9
	case *kinds.Quiet:
		return 10
	case kinds.Coded:
		return 11
	case kinds.Bag:
		return 12
	case kinds.Hold:
		return 13
	case *kinds.Wrap:
		return 14
	case kinds.Over:
		return 15
	case *kinds.Join:
		return 16
	case kinds.Timed:
		return 17
	case kinds.Placed:
		return 18
	case kinds.Twin:
		return 19
	case kinds.Veil:
		return 20
	case *kinds.Echo:
		return 21
	case *kinds.Guise:
		return 22
	case kinds.Box[int8], kinds.Box[float64], kinds.Box[[]uint8]:
		return 23
	case *kinds.Slow:
		return 24
	case kinds.Full:
		return 25
	case *kinds.Opaque:
		return 26
	}
	return 0
}

// every puts an error of each kind, with parts and without, and each kind's
// typed nil: the specs by handle, from 1 on.
func every(t testing.TB, b *book.Book) []api.Spec {
	t.Helper()
	specs := []api.Spec{{}}
	make := func(s api.Spec) int {
		specs = append(specs, s)
		return put(t, b, s)
	}
	for _, kind := range []uint8{6, 7, 8, 9, 10, 14, 16, 21, 22, 24, 26} {
		make(api.Spec{Kind: kind, Nil: true})
	}
	make(api.Spec{Kind: 23, Number: 3, Nil: true})
	for _, s := range []api.Spec{
		{Kind: 1, Number: -300}, {Kind: 2, Text: "n\xff"}, {Kind: 3, Re: nan}, {Kind: 3, Re: minus0}, {Kind: 4, Re: minus0, Im: -2.5},
		{Kind: 5, Text: "\x00\xffab"}, {Kind: 6, Items: []string{"b", "a", "b"}, Number: 7}, {Kind: 7, Text: "l"}, {Kind: 7, Text: "l", Flag: true}, {Kind: 8},
		{Kind: 9, Text: "p"}, {Kind: 10, Text: "q", Flag: true}, {Kind: 11, Number: 128, Text: "c"}, {Kind: 12, Text: "b", Items: []string{"x", "", "x"}},
		{Kind: 19, Number: 5, Re: 1.5}, {Kind: 21, Text: "e", Flag: true}, {Kind: 22, Text: "g", Number: 5},
		{Kind: 23, Number: 1, Small: -128}, {Kind: 23, Number: 2, Re: 0.25}, {Kind: 23, Number: 3, Text: "by\xff"}, {Kind: 24, Text: "s"}, {Kind: 24, Text: "s", Flag: true},
	} {
		make(s)
	}
	leaves := len(specs)
	for h := range leaves {
		for _, s := range []api.Spec{{Kind: 13, Text: "h"}, {Kind: 14, Text: "w"}, {Kind: 15, Text: "o"}, {Kind: 17, Flag: true}, {Kind: 20}} {
			s.Parts = []int{h}
			make(s)
		}
	}
	all := make(join(0, 1, leaves, 0, 2, leaves+1, 1))
	make(api.Spec{Kind: 26, Text: "o", Items: []string{"disk.full"}, Mask: 1 << 31, Parts: []int{all, 0, leaves, 1}})
	plain := make(api.Spec{Kind: 9, Text: "q"})
	about := make(wrap("w", plain))
	for _, parts := range [][]int{nil, {0}, {4}, {plain}} {
		make(api.Spec{Kind: 18, Number: -9, Parts: parts})
	}
	for _, parts := range [][]int{nil, {0}, {6}, {about}} {
		make(api.Spec{Kind: 25, Number: 5, Text: "t", Parts: parts})
	}
	for _, kind := range []uint8{13, 14, 15, 16, 17, 20} {
		make(api.Spec{Kind: kind})
	}
	return specs
}

// The help's errors are of all kinds.
func TestEvery(t *testing.T) {
	b := book.New()
	var kind, nils [27]int
	for _, s := range every(t, b) {
		kind[s.Kind]++
		if s.Nil {
			nils[s.Kind]++
		}
	}
	for k := 1; k <= 26; k++ {
		if kind[k] == nils[k] {
			t.Errorf("none of kind %d", k)
		}
	}
	if k, _ := b.Kind(4); k != api.KindPlain {
		t.Error("the handle 4 is no Plain, but", k)
	}
	if k, _ := b.Kind(6); k != api.KindWrap {
		t.Error("the handle 6 is no Wrap, but", k)
	}
}
