package cases_test

import (
	"math"
	"slices"
	"testing"

	"errata/api"
	"errata/book"
	"errata/cases"
)

// picks is a switch that must choose this, as clauses and compiled.
func picks(t *testing.T, b *book.Book, h int, l []cases.Clause, want cases.Choice) {
	t.Helper()
	if got, e := cases.Pick(b, h, l); got != want || e != api.OK {
		t.Errorf("Pick(%d, %v): %v, %d; want %v", h, l, got, e, want)
	}
	s, e := cases.Compile(l)
	if s.Len() != len(l) || e != api.OK {
		t.Fatalf("Compile(%v): of %d, %d", l, s.Len(), e)
	}
	for range 2 {
		if got, e := s.Pick(b, h); got != want || e != api.OK {
			t.Errorf("Compile(%v).Pick(%d): %v, %d; want %v", l, h, got, e, want)
		}
	}
}

// P9.2: the chapter's examples of Pick.
func TestExamplesOfPick(t *testing.T) {
	b := book.New()
	code := put(t, b, api.Spec{Kind: api.KindCode, Number: 7})
	plain := put(t, b, api.Spec{Kind: api.KindPlain, Nil: true})
	full := put(t, b, api.Spec{Kind: api.KindFull})
	for _, c := range []struct {
		h    int
		l    []cases.Clause
		want cases.Choice
	}{
		{code, clauses(kind(api.KindCode, 1), face(api.FaceGrader, 2)), cases.Choice{To: 1}},
		{code, clauses(face(api.FaceGrader, 2), kind(api.KindCode, 1)), cases.Choice{To: 2}},
		{code, clauses(kind(api.KindNote, 1)), nothing},
		{0, clauses(face(api.FaceAny, 1), noError(2)), cases.Choice{Clause: 1, To: 2}},
		{0, clauses(face(api.FaceAny, 1), byDefault(3)), cases.Choice{Clause: 1, Term: -1, To: 3}},
		{plain, clauses(noError(1), kind(api.KindPlain, 2)), cases.Choice{Clause: 1, To: 2}},
		{full, clauses(byDefault(9), face(api.FaceCoder, 1)), cases.Choice{Clause: 1, To: 1}},
	} {
		picks(t, b, c.h, c.l, c.want)
	}
}

// P9.2: the edges: nothing to choose from, a clause's later terms, a default
// ahead of all, where it leads to.
func TestPickEdges(t *testing.T) {
	b := all(t)
	note := 14
	if k, _ := b.Kind(note); k != api.KindNote {
		t.Fatal("no Note:", k)
	}
	code, notes, kinder, none := cases.Term{Kind: 1}, cases.Term{Kind: 2}, cases.Term{Face: 13}, cases.Term{}
	for _, c := range []struct {
		h    int
		l    []cases.Clause
		want cases.Choice
	}{
		{note, nil, nothing}, {0, nil, nothing}, {0, clauses(face(api.FaceError, 1), face(api.FaceAny, 2)), nothing},
		{note, clauses(many(5, code, none, notes, kinder)), cases.Choice{Term: 2, To: 5}},
		{note, clauses(many(5, code, kinder, notes)), cases.Choice{Term: 1, To: 5}},
		{note, clauses(many(5, code, none), many(6, cases.Term{Face: 18}, kinder), kind(2, 7)), cases.Choice{Clause: 1, Term: 1, To: 6}},
		{0, clauses(byDefault(1), many(5, code, none)), cases.Choice{Clause: 1, Term: 1, To: 5}},
		{note, clauses(byDefault(math.MinInt)), cases.Choice{Term: -1, To: math.MinInt}},
		{note, clauses(noError(1), byDefault(0), kind(1, 1)), cases.Choice{Clause: 1, Term: -1}},
		{note, clauses(kind(2, math.MaxInt)), cases.Choice{To: math.MaxInt}},
		{note, clauses(kind(2, -1)), cases.Choice{To: -1}},
	} {
		picks(t, b, c.h, c.l, c.want)
	}
}

// P9.2, and chapter 6: each term alone, of each error: by the error's kind and
// by its type; a default takes the others.
func TestPickOneTerm(t *testing.T) {
	b := all(t)
	for h := 0; h <= b.Len(); h++ {
		v, _ := b.Error(h)
		s, _ := b.Spec(h)
		for _, term := range allTerms() {
			holds := holdsByType(term, v)
			if holds != holdsOf(term, s.Kind) {
				t.Fatalf("%v of %+v: %t by the type, %t by the kind", term, s, holds, !holds)
			}
			want, rest := cases.Choice{To: 3}, cases.Choice{To: 3}
			if !holds {
				want, rest = nothing, cases.Choice{Clause: 1, Term: -1, To: 4}
			}
			if got, e := cases.Pick(b, h, clauses(one(term, 3))); got != want || e != api.OK {
				t.Errorf("Pick(%d, %v): %v, %d; want %v", h, term, got, e, want)
			}
			if got, e := cases.Pick(b, h, clauses(one(term, 3), byDefault(4))); got != rest || e != api.OK {
				t.Errorf("Pick(%d, %v or else): %v, %d; want %v", h, term, got, e, rest)
			}
		}
	}
}

// P9.2, P9.7: many switches, of each error, by its type.
func TestPickMany(t *testing.T) {
	b := all(t)
	var d dice
	var terms, defaults, nones int
	for range 400 {
		l := d.clauses()
		s, e := cases.Compile(l)
		if e != api.OK {
			t.Fatalf("Compile(%v): %d", l, e)
		}
		for h := 0; h <= b.Len(); h++ {
			v, _ := b.Error(h)
			want := chosen(l, func(t cases.Term) bool { return holdsByType(t, v) })
			if got, e := s.Pick(b, h); got != want || e != api.OK {
				t.Fatalf("Compile(%v).Pick(%d): %v, %d; want %v", l, h, got, e, want)
			}
			if h%16 == 0 {
				picks(t, b, h, l, want)
			}
			switch {
			case want == nothing:
				nones++
			case want.Term < 0:
				defaults++
			case want.Term > 0:
				terms++
			}
		}
	}
	if terms < 1000 || defaults < 1000 || nones < 1000 {
		t.Error(terms, "by a later term,", defaults, "by a default,", nones, "not at all")
	}
}

// P9.2: compiled is what the clauses were then; they stay as they were.
func TestClausesStay(t *testing.T) {
	b := all(t)
	code := 13
	terms, behind := withRoom([]cases.Term{{Kind: 2}, {Kind: 1}}, cases.Term{Face: 1})
	l, after := withRoom([]cases.Clause{byDefault(4), {Terms: terms, To: 5}, face(1, 6)}, noError(9))
	was := copied(l)
	s, _ := cases.Compile(l)
	again, _ := cases.Compile(l)
	for range 2 {
		cases.Check(l)
		cases.Pick(b, code, l)
		cases.Bound(l, 1)
		cases.Table(l)
		cases.Dead(l)
		cases.Same(l, l)
		trimmed, _ := cases.Trim(l)
		for i := range trimmed[:cap(trimmed)] {
			c := &trimmed[:cap(trimmed)][i]
			for k := range c.Terms[:cap(c.Terms)] {
				c.Terms[:cap(c.Terms)][k] = cases.Term{Kind: 99}
			}
			*c = noError(8)
		}
	}
	if !equal(l, was) || !slices.Equal(behind, []cases.Term{{Face: 1}, {Face: 1}, {Face: 1}}) || !equal(after, slices.Repeat(clauses(noError(9)), 3)) {
		t.Error("the clauses were changed:", l, behind, after)
	}
	terms[1] = cases.Term{Kind: 99}
	l[1].To, l[0], l[2] = 50, noError(7), face(19, 8)
	for _, s := range []*cases.Switch{s, again} {
		for h, want := range map[int]cases.Choice{0: {Term: -1, To: 4}, code: {Clause: 1, Term: 1, To: 5}, 1: {Clause: 2, To: 6}} {
			if got, e := s.Pick(b, h); got != want || e != api.OK || s.Len() != 3 {
				t.Errorf("Pick(%d) behind a change: %v, %d; want %v", h, got, e, want)
			}
		}
	}
}

// P9.2: one switch asks errors of many books.
func TestManyBooks(t *testing.T) {
	s, _ := cases.Compile(clauses(kind(1, 1), face(4, 2), noError(3)))
	for k, want := range map[uint8]cases.Choice{1: {To: 1}, 3: {Clause: 1, To: 2}, 2: nothing} {
		b := book.New()
		put(t, b, api.Spec{Kind: k})
		if got, e := s.Pick(b, 1); got != want || e != api.OK {
			t.Errorf("Pick of kind %d: %v, %d", k, got, e)
		}
		if got, e := s.Pick(b, 0); got != (cases.Choice{Clause: 2, To: 3}) || e != api.OK {
			t.Errorf("Pick of no error: %v, %d", got, e)
		}
	}
}

// P9.3: the chapter's examples of Bound, and all terms alone, with others, and
// behind others.
func TestBound(t *testing.T) {
	code, note, any := cases.Term{Kind: api.KindCode}, cases.Term{Kind: api.KindNote}, cases.Term{Face: api.FaceError}
	for _, c := range []struct {
		l      []cases.Clause
		clause int
		want   cases.Term
	}{
		{clauses(one(code, 0)), 0, code}, {clauses(many(0, code, note)), 0, any}, {clauses(byDefault(0)), 0, any},
		{clauses(byDefault(0), one(note, 0), many(0, code, cases.Term{}), face(9, 0)), 1, note},
		{clauses(byDefault(0), one(note, 0), many(0, code, cases.Term{}), face(9, 0)), 2, any},
		{clauses(byDefault(0), one(note, 0), many(0, code, cases.Term{}), face(9, 0)), 3, cases.Term{Face: 9}},
	} {
		if got, e := cases.Bound(c.l, c.clause); got != c.want || e != api.OK {
			t.Errorf("Bound(%v, %d): %v, %d; want %v", c.l, c.clause, got, e, c.want)
		}
	}
	term, e := cases.Bound(clauses(one(code, 0)), 1)
	wrong(t, "Bound", api.ErrArg, e, term)
	for _, term := range allTerms() {
		if got, e := cases.Bound(clauses(one(term, 5)), 0); got != term || e != api.OK {
			t.Errorf("Bound(%v): %v, %d", term, got, e)
		}
	}
	if got, e := cases.Bound(clauses(many(5, allTerms()...)), 0); got != any || e != api.OK {
		t.Errorf("Bound of all terms: %v, %d", got, e)
	}
}

// R7: no call calls a method of an error: what the first one makes was not made.
func TestNothingIsCalled(t *testing.T) {
	b := all(t)
	count := func(int, []int) int { return 1 }
	for _, term := range allTerms() {
		l := clauses(one(term, 1), byDefault(2))
		s, _ := cases.Compile(l)
		for h := range b.Each() {
			cases.Pick(b, h, l)
			s.Pick(b, h)
			cases.Fold(b, h, s, []func(int, []int) int{count, count})
		}
	}
	for _, s := range slows(b) {
		if s.Made() {
			t.Error("an Error was called")
		}
	}
}
