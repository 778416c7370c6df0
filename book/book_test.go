package book_test

import (
	"math"
	"slices"
	"testing"

	"errata/api"
	"errata/book"
	"errata/kinds"
)

// The chapter's examples, in their order, in one book.
func TestExamples(t *testing.T) {
	b := book.New()
	for want, s := range []api.Spec{{Kind: api.KindCode, Number: 7}, wrap("w", 1), join(1, 2, 0)} {
		if h, e := b.Make(s); h != want+1 || e != api.OK {
			t.Errorf("Make(%+v): %d, %d", s, h, e)
		}
	}
	size, e1 := b.Size(3)
	depth, e2 := b.Depth(3)
	none, e3 := b.Size(0)
	if size != 4 || depth != 3 || none != 0 || b.Len() != 3 || e1+e2+e3 != api.OK {
		t.Error("sizes", size, depth, none, b.Len(), e1, e2, e3)
	}
	if c, ok := errorOf(t, b, 1).(kinds.Code); c != 7 || !ok {
		t.Error("Error(1)", c, ok)
	}
	if _, ok := errorOf(t, b, 1).(api.Grader); !ok {
		t.Error("Error(1) is no Grader")
	}
	if v := errorOf(t, b, 0); v != nil {
		t.Error("Error(0)", v)
	}
	if one, ok := errorOf(t, b, 2).(api.One); !ok || one.Unwrap() != kinds.Code(7) {
		t.Error("Error(2) is no One about Code 7")
	}
	refused(t, b, wrap("", 9), api.ErrHandle)
	refused(t, b, wrap("", -1), api.ErrHandle)
	if v, e := b.Error(4); v != nil || e != api.ErrHandle {
		t.Error("Error(4)", v, e)
	}
	if s, e := b.Spec(0); !alike(s, api.Spec{}) || e != api.ErrHandle {
		t.Error("Spec(0)", s, e)
	}
	refused(t, b, api.Spec{Kind: 27}, api.ErrKind)
	refused(t, b, api.Spec{Kind: api.KindCode, Parts: []int{1}}, api.ErrPart)
	examplesBehind(t, b)
}

// examplesBehind is those that put a Plain of Nil and a Lazy behind the first three.
func examplesBehind(t *testing.T, b *book.Book) {
	if h := put(t, b, api.Spec{Kind: api.KindPlain, Nil: true}); h != 4 {
		t.Error("the nil Plain is", h)
	}
	if p, ok := errorOf(t, b, 4).(*kinds.Plain); errorOf(t, b, 4) == nil || p != nil || !ok {
		t.Error("Error(4)", p, ok)
	}
	if s, p, e := b.Text(4); s != "" || p != (api.Panic{Sort: api.RuntimePanic}) || e != api.OK {
		t.Error("Text(4)", s, p, e)
	}
	if h := put(t, b, api.Spec{Kind: api.KindLazy, Text: "x", Flag: true}); h != 5 {
		t.Error("the Lazy is", h)
	}
	for range 2 {
		if s, p, e := b.Text(5); s != "" || p != (api.Panic{Sort: api.OwnPanic, Word: "x"}) || e != api.OK {
			t.Error("Text(5)", s, p, e)
		}
	}
	c := b.Copy()
	if h := put(t, c, api.Spec{Kind: api.KindCode}); h != 6 || b.Len() != 5 {
		t.Error("behind a copy", h, b.Len())
	}
	if errorOf(t, c, 2) != errorOf(t, b, 2) {
		t.Error("the copy's errors are others")
	}
	row := book.New()
	if h := wraps(t, row, 0, 64); h != 64 {
		t.Error("the row's end is", h)
	}
	refused(t, row, wrap("", 64), api.ErrDeep)
}

// The numbers of the section 'Errors', and the limits.
func TestNumbers(t *testing.T) {
	got := []api.Errno{api.OK, api.ErrNil, api.ErrFull, api.ErrKind, api.ErrPart, api.ErrHandle, api.ErrSize, api.ErrDeep, api.ErrText}
	if want := []api.Errno{0, 2, 3, 40, 41, 50, 51, 52, 53}; !slices.Equal(got, want) {
		t.Error(got)
	}
	if api.MaxSize != 4096 || api.MaxDepth != 64 || api.MaxText != 65536 || api.MaxBook != 65536 {
		t.Error("the limits")
	}
}

// failures is what the calls that ask of a handle answer, and whether all their other results are zero.
func failures(b *book.Book, h int) (e [8]api.Errno, zero bool) {
	v, e0 := b.Error(h)
	s, e1 := b.Spec(h)
	k, e2 := b.Kind(h)
	parts, e3 := b.Parts(h)
	size, e4 := b.Size(h)
	depth, e5 := b.Depth(h)
	length, e6 := b.Length(h)
	text, p, e7 := b.Text(h)
	zero = v == nil && alike(s, api.Spec{}) && k == 0 && len(parts) == 0 && size == 0 && depth == 0 && length == 0 && text == "" && p == api.Panic{}
	return [8]api.Errno{e0, e1, e2, e3, e4, e5, e6, e7}, zero
}

// R1: a nil book.
func TestNilBook(t *testing.T) {
	var b *book.Book
	for _, h := range []int{0, 1, -1, math.MaxInt, math.MinInt} {
		e, zero := failures(b, h)
		for i := range e {
			if e[i] != api.ErrNil || !zero {
				t.Fatalf("of the handle %d: %d, %t", h, e, zero)
			}
		}
	}
	for _, s := range []api.Spec{{}, {Kind: 1}, {Kind: 27}, {Kind: 1, Text: "x"}, {Kind: 1, Parts: []int{0}}, {Kind: 14, Parts: []int{5}}} {
		if h, e := b.Make(s); h != 0 || e != api.ErrNil {
			t.Errorf("Make(%+v): %d, %d", s, h, e)
		}
	}
	if b.Len() != 0 || b.Copy() != nil {
		t.Error("Len, Copy:", b.Len(), b.Copy())
	}
	for h, v := range b.Each() {
		t.Error("Each:", h, v)
	}
}

// P5.1: a new book; books have nothing to do with one another.
func TestNew(t *testing.T) {
	b, other := book.New(), book.New()
	if b == nil || b.Len() != 0 {
		t.Fatal("New:", b)
	}
	if e, zero := failures(b, 1); e[0] != api.ErrHandle || !zero {
		t.Error("of the handle 1:", e, zero)
	}
	put(t, b, note("a"))
	if other.Len() != 0 {
		t.Error("the other book has", other.Len())
	}
	refused(t, other, wrap("", 1), api.ErrHandle)
	put(t, other, note("b"))
	if errorOf(t, b, 1) != kinds.Note("a") || errorOf(t, other, 1) != kinds.Note("b") {
		t.Error("the books' errors", errorOf(t, b, 1), errorOf(t, other, 1))
	}
}

// The section 'Errors': handles that name none; 0, which names none for Spec and Kind alone.
func TestHandles(t *testing.T) {
	b := book.New()
	put(t, b, note("a"))
	put(t, b, wrap("w", 1))
	for _, h := range []int{3, 4, -1, -2, 1 << 16, 1 << 32, 1<<32 + 1, 1<<16 + 1, math.MaxInt, math.MinInt, math.MinInt + 1} {
		e, zero := failures(b, h)
		for i := range e {
			if e[i] != api.ErrHandle || !zero {
				t.Fatalf("of the handle %d: %d, %t", h, e, zero)
			}
		}
	}
	e, zero := failures(b, 0)
	if want := [8]api.Errno{1: api.ErrHandle, 2: api.ErrHandle}; e != want || !zero {
		t.Error("of no error:", e, zero)
	}
	for h := 1; h <= 2; h++ {
		if e, _ := failures(b, h); e != [8]api.Errno{} {
			t.Error("of the handle", h, e)
		}
	}
}

// P5.1 and the section 'Errors': what is wrong, the first by the table.
func TestMakeRefuses(t *testing.T) {
	b := book.New()
	put(t, b, note("a"))
	put(t, b, wrap("w", 1))
	put(t, b, api.Spec{Kind: api.KindPlain})
	zeros := make([]int, 100000)
	last := append(slices.Clone(zeros), 4)
	for _, x := range []struct {
		s    api.Spec
		want api.Errno
	}{
		{api.Spec{}, api.ErrKind},
		{api.Spec{Kind: 27}, api.ErrKind},
		{api.Spec{Kind: 255, Parts: []int{1, 2}}, api.ErrKind},
		{api.Spec{Kind: 1, Text: "x"}, api.ErrKind},
		{api.Spec{Kind: 2, Text: long + "x"}, api.ErrKind},
		{api.Spec{Kind: 3, Im: minus0}, api.ErrKind},
		{api.Spec{Kind: 9, Nil: true, Text: "x"}, api.ErrKind},
		{api.Spec{Kind: 14, Flag: true, Parts: []int{1, 2}}, api.ErrKind},
		{api.Spec{Kind: 1, Parts: []int{1}}, api.ErrPart},
		{api.Spec{Kind: 1, Parts: []int{0}}, api.ErrPart},
		{wrap("", 1, 2), api.ErrPart},
		{wrap("", 0, 0), api.ErrPart},
		{api.Spec{Kind: 14, Nil: true, Parts: []int{1}}, api.ErrPart},
		{join(times(1, 65)...), api.ErrPart},
		{join(zeros...), api.ErrPart},
		{api.Spec{Kind: 18, Parts: []int{1}}, api.ErrPart},
		{api.Spec{Kind: 18, Parts: []int{2}}, api.ErrPart},
		{api.Spec{Kind: 25, Parts: []int{1}}, api.ErrPart},
		{api.Spec{Kind: 25, Parts: []int{3}}, api.ErrPart},
		{wrap("", 4), api.ErrHandle},
		{wrap("", -1), api.ErrHandle},
		{wrap("", math.MinInt), api.ErrHandle},
		{wrap("", math.MaxInt), api.ErrHandle},
		{wrap("", 1<<32+1), api.ErrHandle},
		{join(1, 2, 0, 4), api.ErrHandle},
		{join(4, 1, 2), api.ErrHandle},
		{join(last...), api.ErrHandle},
		{wrap("", 1, 9), api.ErrHandle},
		{api.Spec{Kind: 0, Parts: []int{9}}, api.ErrHandle},
		{api.Spec{Kind: 27, Parts: []int{-1}}, api.ErrHandle},
		{api.Spec{Kind: 1, Text: "x", Parts: []int{4}}, api.ErrHandle},
		{api.Spec{Kind: 18, Parts: []int{1, 4}}, api.ErrHandle},
		{api.Spec{Kind: 9, Nil: true, Parts: []int{4}}, api.ErrHandle},
	} {
		refused(t, b, x.s, x.want)
	}
	if h := put(t, b, note("behind")); h != 4 {
		t.Error("behind what was refused:", h)
	}
}

// P5.1: no method of an error is called, whatever is about it.
func TestMakeCallsNothing(t *testing.T) {
	b := book.New()
	every(t, b)
	slow := put(t, b, api.Spec{Kind: api.KindSlow, Text: "s", Flag: true})
	harsh := put(t, b, api.Spec{Kind: api.KindEcho, Text: "e", Flag: true})
	h := put(t, b, join(slow, harsh, slow))
	for _, kind := range []uint8{13, 14, 15, 17, 20} {
		h = put(t, b, api.Spec{Kind: kind, Parts: []int{h}})
	}
	put(t, b, api.Spec{Kind: 26, Items: []string{"n"}, Parts: []int{h, slow}})
	for h := range b.Len() + 1 {
		b.Error(h)
		b.Spec(h)
		b.Kind(h)
		b.Parts(h)
		b.Size(h)
		b.Depth(h)
		b.Length(h)
	}
	for range b.Copy().Each() {
	}
	for h, v := range b.Each() {
		if s, ok := v.(*kinds.Slow); ok && s.Made() {
			t.Error("the make of", h, "was called")
		}
	}
	if s, p, e := b.Text(slow); s != "" || p.Word != "s" || e != api.OK || !errorOf(t, b, slow).(*kinds.Slow).Made() {
		t.Error("Text calls no make:", s, p, e)
	}
}

// P5.2: the Spec field by field, and what follows from it.
func TestSpec(t *testing.T) {
	b := book.New()
	for h, s := range every(t, b) {
		if h == 0 {
			continue
		}
		x := tellAll(t, b, h)
		if !alike(x.spec, s) || x.kind != s.Kind || !slices.Equal(x.parts, s.Parts) {
			t.Errorf("the handle %d of %+v: %+v", h, s, x)
		}
	}
}

// Words: size, depth and length of some errors.
func TestMeasures(t *testing.T) {
	b := book.New()
	code := put(t, b, api.Spec{Kind: api.KindCode, Number: 7})
	two := put(t, b, join(code, code))
	for _, x := range []struct {
		s                   api.Spec
		size, depth, length int
	}{
		{api.Spec{Kind: 1, Number: -32768}, 1, 1, 11},
		{api.Spec{Kind: 9, Nil: true}, 1, 1, 0},
		{api.Spec{Kind: 10, Nil: true}, 1, 1, 5},
		{api.Spec{Kind: 7, Text: "abc", Flag: true}, 1, 1, 0},
		{join(), 1, 1, 0},
		{join(0, 0), 1, 1, 0},
		{wrap("w"), 1, 1, 1},
		{wrap("w", 0), 1, 1, 1},
		{wrap("w", code), 2, 2, 9},
		{wrap("", two), 4, 3, 15},
		{join(code, 0, two), 5, 3, 20},
		{join(two, two, code, two), 11, 3, 48},
		{api.Spec{Kind: 13, Text: "h", Parts: []int{two}}, 4, 3, 1},
		{api.Spec{Kind: 17, Parts: []int{two}}, 4, 3, 13},
		{api.Spec{Kind: 17}, 1, 1, 0},
		{api.Spec{Kind: 20, Parts: []int{code}}, 2, 2, 12},
		{api.Spec{Kind: 26, Text: "o", Items: []string{"name"}, Parts: []int{two, 0, code}}, 5, 3, 1},
		{api.Spec{Kind: 23, Number: 3, Text: "\xff\x00"}, 1, 1, 6},
	} {
		if y := tellAll(t, b, put(t, b, x.s)); y.size != x.size || y.depth != x.depth || y.length != x.length {
			t.Errorf("%+v: %d, %d, %d; want %d, %d, %d", x.s, y.size, y.depth, y.length, x.size, x.depth, x.length)
		}
	}
}

// R1, beyond the promises: a book that New did not make.
func TestBareBook(t *testing.T) {
	var b book.Book
	failures(&b, 0)
	failures(&b, 1)
	b.Make(api.Spec{Kind: 1})
	b.Make(wrap("", 1))
	b.Copy().Make(api.Spec{Kind: 1})
	for range b.Each() {
	}
	failures(&b, b.Len())
}
