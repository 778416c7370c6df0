package compare_test

import (
	"slices"
	"testing"

	"errata/api"
	"errata/book"
	"errata/compare"
)

// empty is a set that must be made.
func empty(t testing.TB, b *book.Book) *compare.Set {
	t.Helper()
	s, e := compare.New(b)
	if s == nil || e != api.OK {
		t.Fatalf("New: %v, %d", s, e)
	}
	return s
}

// answers is a call of a set that must answer this.
func answers(t *testing.T, call string, h, got int, e api.Errno, want int) {
	t.Helper()
	if got != want || e != api.OK {
		t.Errorf("%s(%d): %d, %d; want %d", call, h, got, e, want)
	}
}

// The chapter's example of a set.
func TestExampleOfSet(t *testing.T) {
	s := empty(t, fourteen(t))
	for _, c := range [][2]int{{1, api.Unlike}, {2, api.Same}, {3, api.Unlike}, {3, api.Unlike}} {
		o, e := s.Put(c[0])
		answers(t, "Put", c[0], o, e, c[1])
	}
	if s.Len() != 3 {
		t.Error("Len:", s.Len())
	}
	o, e := s.Has(3)
	answers(t, "Has", 3, o, e, api.Unlike)
	o, e = s.Put(10)
	answers(t, "Put", 10, o, e, api.Panics)
	o, e = empty(t, fourteen(t)).Has(4)
	answers(t, "Has of a new set", 4, o, e, api.Panics)
	o, e = s.Drop(2)
	answers(t, "Drop", 2, o, e, api.Same)
	if s.Len() != 2 {
		t.Error("Len:", s.Len())
	}
}

// row is what a set does, done by a row that is gone through by Two (P7.8).
type row struct {
	t  *testing.T
	b  *book.Book
	in []int
}

// find is what is answered of a handle, and where it is in.
func (r *row) find(h int) (outcome, at int) {
	if !mayBeKey(r.b, h) {
		return api.Panics, -1
	}
	at = slices.IndexFunc(r.in, func(x int) bool { return two(r.t, r.b, x, h) == api.Same })
	return sameIf(at >= 0), at
}

// do does what a call of a set does: its answer.
func (r *row) do(call, h int) int {
	outcome, at := r.find(h)
	switch {
	case call == 0 && outcome == api.Unlike:
		r.in = append(r.in, h)
	case call == 1 && outcome == api.Same:
		r.in = slices.Delete(r.in, at, at+1)
	}
	return outcome
}

// P7.5, P7.8: sets of all errors, two at once of one book, as rows do it.
func TestSets(t *testing.T) {
	b := all(t)
	hs := some(b)
	var sets [2]*compare.Set
	var rows [2]row
	for i := range sets {
		sets[i], rows[i] = empty(t, b), row{t: t, b: b}
	}
	var d dice
	var counts [3][4]int
	longest := 0
	for range 30000 {
		i, call, h := d.below(2), d.below(3), d.of(hs)
		if d.below(2) == 0 {
			h = d.of(hs[:len(hs)/8])
		}
		if d.below(1500) == 0 {
			sets[i].Clear()
			rows[i].in = nil
		}
		ask := [3]func(int) (int, api.Errno){sets[i].Put, sets[i].Drop, sets[i].Has}[call]
		want := rows[i].do(call, h)
		if got, e := ask(h); got != want || e != api.OK {
			t.Fatalf("call %d of %d (%+v): %d, %d; want %d", call, h, specOf(b, h), got, e, want)
		}
		if sets[i].Len() != len(rows[i].in) {
			t.Fatalf("%d are in, of %d", sets[i].Len(), len(rows[i].in))
		}
		counts[call][want]++
		longest = max(longest, sets[i].Len())
	}
	for call, n := range counts {
		if min(n[api.Same], n[api.Unlike], n[api.Panics]) < 500 {
			t.Errorf("call %d answered %v", call, n)
		}
	}
	if longest < 100 {
		t.Error("the sets are small:", longest)
	}
}

// P7.5: what may not be a key panics in an empty set, a full one, and a cleared one.
func TestNoKeys(t *testing.T) {
	b := all(t)
	s := empty(t, b)
	check := func(h int) {
		for call, ask := range []func(int) (int, api.Errno){s.Has, s.Put, s.Drop, s.Has} {
			n := s.Len()
			if got, e := ask(h); (got == api.Panics) == mayBeKey(b, h) || e != api.OK {
				t.Errorf("call %d of %+v: %d, %d", call, specOf(b, h), got, e)
			}
			if !mayBeKey(b, h) && s.Len() != n {
				t.Errorf("call %d of %+v: %d are in, then %d", call, specOf(b, h), n, s.Len())
			}
		}
	}
	for h := 0; h <= b.Len(); h++ {
		if !mayBeKey(b, h) {
			check(h)
		}
	}
	for h := 0; h <= b.Len(); h++ {
		check(h)
	}
	s.Clear()
	for h := 0; h <= b.Len(); h++ {
		check(h)
	}
}

// P7.5, P7.8: what is unlike itself is put in each time, and only Clear takes it out.
func TestUnlikeItself(t *testing.T) {
	b := all(t)
	s := empty(t, b)
	n := 0
	for h := 0; h <= b.Len(); h++ {
		if told(b, h, h) != api.Unlike {
			continue
		}
		for range 50 {
			o, e := s.Put(h)
			answers(t, "Put", h, o, e, api.Unlike)
			n++
		}
		o, e := s.Has(h)
		answers(t, "Has", h, o, e, api.Unlike)
		o, e = s.Drop(h)
		answers(t, "Drop", h, o, e, api.Unlike)
		if s.Len() != n {
			t.Fatalf("%d are in, of %d", s.Len(), n)
		}
	}
	if n < 500 {
		t.Error("only so many:", n)
	}
	s.Clear()
	if s.Len() != 0 {
		t.Error("cleared, but", s.Len(), "are in")
	}
}

// P7.5: many errors, put in, found, dropped, and put in again; what the book was
// given since the set was made, too.
func TestGreatSet(t *testing.T) {
	b := book.New()
	s := empty(t, b)
	const n = 20000
	for i := range n {
		h := put(t, b, api.Spec{Kind: api.KindCode, Number: int16(i)})
		if o, e := s.Put(h); o != api.Unlike || e != api.OK || s.Len() != i+1 {
			t.Fatalf("Put(%d): %d, %d; %d are in", h, o, e, s.Len())
		}
	}
	for i := range n {
		like := put(t, b, api.Spec{Kind: api.KindCode, Number: int16(i)})
		if i%2 == 0 {
			if o, e := s.Drop(like); o != api.Same || e != api.OK {
				t.Fatalf("Drop(%d): %d, %d", like, o, e)
			}
			if o, e := s.Drop(like); o != api.Unlike || e != api.OK {
				t.Fatalf("Drop(%d) again: %d, %d", like, o, e)
			}
		}
		if o, e := s.Has(i + 1); o != sameIf(i%2 == 1) || e != api.OK {
			t.Fatalf("Has(%d): %d, %d", i+1, o, e)
		}
	}
	if s.Len() != n/2 {
		t.Error(s.Len(), "are in")
	}
	s.Clear()
	if o, e := s.Has(2); o != api.Unlike || e != api.OK || s.Len() != 0 {
		t.Error("cleared, but", o, e, s.Len())
	}
	if o, e := s.Put(2); o != api.Unlike || e != api.OK || s.Len() != 1 {
		t.Error("behind a Clear:", o, e, s.Len())
	}
}

// P7.5: no error, both noughts, and typed nils are keys as others are.
func TestKeys(t *testing.T) {
	b := fourteen(t)
	s := empty(t, b)
	nil2 := put(t, b, api.Spec{Kind: api.KindWrap, Nil: true})
	for _, c := range []struct{ h, put, like int }{
		{0, api.Unlike, 0}, {11, api.Unlike, 12}, {12, api.Same, 11}, {9, api.Unlike, nil2}, {7, api.Unlike, 7}, {8, api.Unlike, 8},
	} {
		o, e := s.Put(c.h)
		answers(t, "Put", c.h, o, e, c.put)
		o, e = s.Has(c.like)
		answers(t, "Has", c.like, o, e, api.Same)
	}
	if s.Len() != 5 {
		t.Error("Len:", s.Len())
	}
	o, e := s.Drop(0)
	answers(t, "Drop", 0, o, e, api.Same)
	o, e = s.Has(0)
	answers(t, "Has", 0, o, e, api.Unlike)
	o, e = s.Drop(nil2)
	answers(t, "Drop", nil2, o, e, api.Same)
	if s.Len() != 3 {
		t.Error("Len:", s.Len())
	}
}

// P7.5: a set of a copy of a book finds that book's errors, which are the very same.
func TestSetsAreApart(t *testing.T) {
	b := fourteen(t)
	c := b.Copy()
	one, other := empty(t, b), empty(t, c)
	one.Put(7)
	o, e := other.Has(7)
	answers(t, "Has of another set", 7, o, e, api.Unlike)
	h := put(t, c, api.Spec{Kind: api.KindNote})
	o, e = other.Put(h)
	answers(t, "Put", h, o, e, api.Unlike)
	got, e := one.Has(h)
	wrong(t, "Has of another book's handle", api.ErrHandle, e, got)
	other.Clear()
	o, e = one.Has(7)
	answers(t, "Has", 7, o, e, api.Same)
}
