package compare_test

import (
	"math"
	"slices"
	"testing"

	"errata/api"
	"errata/book"
	"errata/compare"
)

// badHandles name none in a book of fourteen errors.
var badHandles = []int{-1, 15, 16, 1 << 16, 1 << 32, 1<<32 + 1, math.MaxInt, math.MinInt}

// The section 'Errors': a nil book ahead of all else.
func TestNilBook(t *testing.T) {
	for _, h := range []int{0, 1, -1, 99} {
		o, e := compare.Two(nil, h, h)
		wrong(t, "Two", api.ErrNil, e, o)
		o, e = compare.Four(nil, [4]int{h}, [4]int{0, h})
		wrong(t, "Four", api.ErrNil, e, o)
		for _, row := range [][]int{nil, {h}, {0, h}} {
			o, e = compare.Rows(nil, row, nil)
			wrong(t, "Rows", api.ErrNil, e, o)
			o, e = compare.Rows(nil, nil, row)
			wrong(t, "Rows", api.ErrNil, e, o)
			at, o, e := compare.Seek(nil, h, row)
			wrong(t, "Seek", api.ErrNil, e, at, o)
			same, out, e := compare.Classes(nil, row)
			wrong(t, "Classes", api.ErrNil, e, same, out)
		}
		is, e := compare.ByType(nil, h)
		wrong(t, "ByType", api.ErrNil, e, is)
		none, typed, e := compare.Nothing(nil, h)
		wrong(t, "Nothing", api.ErrNil, e, none, typed)
	}
	s, e := compare.New(nil)
	wrong(t, "New", api.ErrNil, e, s)
}

// Each handle that names none is told, at any place, whatever the others come to.
func TestBadHandles(t *testing.T) {
	b := fourteen(t)
	for _, h := range badHandles {
		for _, good := range []int{0, 1, 4} {
			for _, c := range [][2]int{{h, good}, {good, h}, {h, h}} {
				o, e := compare.Two(b, c[0], c[1])
				wrong(t, "Two", api.ErrHandle, e, o)
			}
			for at := range 8 {
				row := slices.Repeat([]int{good}, 8)
				row[at] = h
				o, e := compare.Four(b, [4]int(row[:4]), [4]int(row[4:]))
				wrong(t, "Four", api.ErrHandle, e, o)
				for cut := range 9 {
					o, e = compare.Rows(b, row[:cut], row[cut:])
					wrong(t, "Rows", api.ErrHandle, e, o)
				}
				at, o, e := compare.Seek(b, row[0], row[1:])
				wrong(t, "Seek", api.ErrHandle, e, at, o)
				same, out, e := compare.Classes(b, row)
				wrong(t, "Classes", api.ErrHandle, e, same, out)
			}
			at, o, e := compare.Seek(b, h, []int{good})
			wrong(t, "Seek", api.ErrHandle, e, at, o)
		}
		at, o, e := compare.Seek(b, h, nil)
		wrong(t, "Seek", api.ErrHandle, e, at, o)
		is, e := compare.ByType(b, h)
		wrong(t, "ByType", api.ErrHandle, e, is)
		none, typed, e := compare.Nothing(b, h)
		wrong(t, "Nothing", api.ErrHandle, e, none, typed)
	}
}

// A set answers of such a handle likewise, and nothing is done.
func TestBadHandlesOfSets(t *testing.T) {
	b := fourteen(t)
	s := empty(t, b)
	for range 2 {
		for _, h := range badHandles {
			o, e := s.Put(h)
			wrong(t, "Put", api.ErrHandle, e, o)
			o, e = s.Has(h)
			wrong(t, "Has", api.ErrHandle, e, o)
			o, e = s.Drop(h)
			wrong(t, "Drop", api.ErrHandle, e, o)
		}
		if want, _ := s.Has(1); s.Len() != 2-want {
			t.Error(s.Len(), "are in")
		}
		s.Put(1)
	}
}

// R1: a nil set, and one that nobody made.
func TestNilSet(t *testing.T) {
	for _, s := range []*compare.Set{nil, new(compare.Set)} {
		for _, h := range []int{0, 1, -1, 99} {
			o, e := s.Put(h)
			wrong(t, "Put", api.ErrNil, e, o)
			o, e = s.Has(h)
			wrong(t, "Has", api.ErrNil, e, o)
			o, e = s.Drop(h)
			wrong(t, "Drop", api.ErrNil, e, o)
		}
		s.Clear()
		if s.Len() != 0 {
			t.Error("Len:", s.Len())
		}
	}
}

// In an empty book there is no error, and that alone.
func TestEmptyBook(t *testing.T) {
	b := book.New()
	if two(t, b, 0, 0) != api.Same {
		t.Error("no error is unlike no error")
	}
	o, e := compare.Two(b, 0, 1)
	wrong(t, "Two(0, 1)", api.ErrHandle, e, o)
	if o, e := compare.Four(b, [4]int{}, [4]int{}); o != api.Same || e != api.OK {
		t.Errorf("Four of no errors: %d, %d", o, e)
	}
	if at, o, e := compare.Seek(b, 0, []int{0}); at != 0 || o != api.Same || e != api.OK {
		t.Errorf("Seek(0, 0): %d, %d, %d", at, o, e)
	}
	if is, e := compare.ByType(b, 0); !is || e != api.OK {
		t.Errorf("ByType(0): %t, %d", is, e)
	}
}

// R7: no call calls a method: what the first one makes was not made.
func TestNothingIsCalled(t *testing.T) {
	b := all(t)
	s := empty(t, b)
	var hs []int
	for h := range b.Each() {
		hs = append(hs, h)
		compare.Two(b, h, h)
		compare.Four(b, [4]int{h, h, h, h}, [4]int{h, h, h, h})
		compare.Seek(b, h, []int{0, h})
		compare.ByType(b, h)
		compare.Nothing(b, h)
		s.Put(h)
		s.Has(h)
		s.Drop(h)
	}
	compare.Rows(b, hs, hs)
	compare.Classes(b, hs)
	for _, s := range slows(b) {
		if s.Made() {
			t.Error("an Error was called")
		}
	}
}

// R3: what is handed in stays, with the room behind it; and the book, too.
func TestListsStay(t *testing.T) {
	b := fourteen(t)
	x, behind := withRoom([]int{1, 7, 4}, -9)
	y, after := withRoom([]int{2, 7, 4}, -8)
	for range 2 {
		if o, e := compare.Rows(b, x, y); o != api.Panics || e != api.OK {
			t.Errorf("Rows: %d, %d", o, e)
		}
		if at, o, e := compare.Seek(b, 1, y); at != 0 || o != api.Same || e != api.OK {
			t.Errorf("Seek: %d, %d, %d", at, o, e)
		}
	}
	if !slices.Equal(x, []int{1, 7, 4}) || !slices.Equal(y, []int{2, 7, 4}) || !slices.Equal(behind, []int{-9, -9, -9}) || !slices.Equal(after, []int{-8, -8, -8}) {
		t.Error("a list was changed:", x, behind, y, after)
	}
	if b.Len() != 14 {
		t.Error("the book has", b.Len())
	}
}
