package cases_test

import (
	"math"
	"reflect"
	"slices"
	"testing"

	"errata/api"
	"errata/book"
	"errata/cases"
	"errata/kinds"
)

// The clauses of the chapter's examples.

func kind(k uint8, to int) cases.Clause { return one(cases.Term{Kind: k}, to) }

func face(f uint8, to int) cases.Clause { return one(cases.Term{Face: f}, to) }

func noError(to int) cases.Clause { return one(cases.Term{}, to) }

func one(t cases.Term, to int) cases.Clause {
	return cases.Clause{Terms: []cases.Term{t}, To: to}
}

func byDefault(to int) cases.Clause { return cases.Clause{Default: true, To: to} }

func many(to int, terms ...cases.Term) cases.Clause { return cases.Clause{Terms: terms, To: to} }

func clauses(l ...cases.Clause) []cases.Clause { return l }

// nothing is what is chosen where nothing is.
var nothing = cases.Choice{Clause: -1, Term: -1}

// put makes an error that must be made: its handle.
func put(t testing.TB, b *book.Book, s api.Spec) int {
	t.Helper()
	h, e := b.Make(s)
	if e != api.OK {
		t.Fatalf("Make(%+v): %d", s, e)
	}
	return h
}

// all is a book with errors of each kind, with parts and without, and with each
// kind's typed nil. Many of them panic, whatever is called.
func all(t testing.TB) *book.Book {
	t.Helper()
	b := book.New()
	for _, k := range []uint8{6, 7, 8, 9, 10, 14, 16, 21, 22, 24, 26} {
		put(t, b, api.Spec{Kind: k, Nil: true})
	}
	plain, wrap := 4, 6
	for _, s := range []api.Spec{
		{Kind: 23, Number: 3, Nil: true}, {Kind: 1, Number: -300}, {Kind: 2, Text: "n\xff"}, {Kind: 3, Re: math.NaN()}, {Kind: 4, Im: -2.5},
		{Kind: 5, Text: "\x00\xffab"}, {Kind: 6, Items: []string{"b", "a"}}, {Kind: 7, Text: "l"}, {Kind: 7, Text: "l", Flag: true}, {Kind: 8},
		{Kind: 9, Text: "p"}, {Kind: 10, Text: "q", Flag: true}, {Kind: 11, Number: 128, Text: "c"}, {Kind: 12, Items: []string{"x"}},
		{Kind: 19, Number: 5, Re: 1.5}, {Kind: 21, Text: "e"}, {Kind: 21, Text: "e", Flag: true}, {Kind: 22, Text: "g", Number: 5},
		{Kind: 23, Number: 1, Small: -128}, {Kind: 23, Number: 2, Re: 0.25}, {Kind: 23, Number: 3, Text: "by"},
		{Kind: 24, Text: "s"}, {Kind: 24, Text: "s", Flag: true},
	} {
		put(t, b, s)
	}
	for h := range b.Len() + 1 {
		if h%3 > 0 {
			continue
		}
		for _, k := range []uint8{13, 14, 15, 16, 17, 20} {
			put(t, b, api.Spec{Kind: k, Parts: []int{h}})
		}
		put(t, b, api.Spec{Kind: 26, Items: []string{"x"}, Mask: ^uint32(0), Parts: []int{h, 0, h}})
	}
	about := put(t, b, api.Spec{Kind: 14, Parts: []int{b.Len()}})
	for _, k := range []uint8{13, 14, 15, 16, 17, 18, 20, 25} {
		put(t, b, api.Spec{Kind: k})
	}
	for _, part := range []int{0, plain, 22} {
		put(t, b, api.Spec{Kind: 18, Parts: []int{part}})
	}
	for _, part := range []int{0, wrap, about} {
		put(t, b, api.Spec{Kind: 25, Parts: []int{part}})
	}
	put(t, b, api.Spec{Kind: 16, Parts: []int{b.Len(), 0, 1, b.Len(), 0, about, about}})
	return b
}

// slows are a book's Slows that are no nil.
func slows(b *book.Book) []*kinds.Slow {
	var found []*kinds.Slow
	for _, v := range b.Each() {
		if s, ok := v.(*kinds.Slow); ok && s != nil {
			found = append(found, s)
		}
	}
	return found
}

// The help's book has errors of all kinds, and Slows that were not asked yet.
func TestHelp(t *testing.T) {
	b := all(t)
	var some, nils [27]int
	for h := range b.Each() {
		s, _ := b.Spec(h)
		some[s.Kind]++
		if s.Nil {
			nils[s.Kind]++
		}
	}
	for k := 1; k <= 26; k++ {
		if some[k] == nils[k] {
			t.Errorf("none of kind %d", k)
		}
	}
	if nils != [27]int{6: 1, 7: 1, 8: 1, 9: 1, 10: 1, 14: 1, 16: 1, 21: 1, 22: 1, 23: 1, 24: 1, 26: 1} {
		t.Error("typed nils:", nils)
	}
	if len(slows(b)) != 2 {
		t.Error(len(slows(b)), "Slows")
	}
}

// heldByKind is chapter 4's table: which faces a kind has, but for error and any.
var heldByKind = [27][]uint8{
	1: {2, 13}, 2: {13}, 3: {4, 13}, 4: {5}, 6: {14}, 10: {6, 15}, 11: {2, 3}, 12: {8}, 14: {9}, 15: {9}, 16: {10}, 17: {6, 15},
	18: {7}, 19: {2, 4}, 21: {11}, 22: {12}, 25: {2, 3, 9, 16}, 26: {10},
}

// holdsOf is whether a term holds of a kind, 0 being no error, by that table.
func holdsOf(t cases.Term, k uint8) bool {
	switch {
	case t.Face == 0:
		return t.Kind == k
	case t.Face == api.FaceError || t.Face == api.FaceAny:
		return k != 0
	}
	return slices.Contains(heldByKind[k], t.Face)
}

func typeOf[T any]() reflect.Type { return reflect.TypeFor[T]() }

// types are the kinds' types, by their numbers.
var types = [27][]reflect.Type{
	1: {typeOf[kinds.Code]()}, 2: {typeOf[kinds.Note]()}, 3: {typeOf[kinds.Level]()}, 4: {typeOf[kinds.Sway]()}, 5: {typeOf[kinds.Mark]()},
	6: {typeOf[kinds.Tags]()}, 7: {typeOf[kinds.Lazy]()}, 8: {typeOf[kinds.Line]()}, 9: {typeOf[*kinds.Plain]()}, 10: {typeOf[*kinds.Quiet]()},
	11: {typeOf[kinds.Coded]()}, 12: {typeOf[kinds.Bag]()}, 13: {typeOf[kinds.Hold]()}, 14: {typeOf[*kinds.Wrap]()}, 15: {typeOf[kinds.Over]()},
	16: {typeOf[*kinds.Join]()}, 17: {typeOf[kinds.Timed]()}, 18: {typeOf[kinds.Placed]()}, 19: {typeOf[kinds.Twin]()}, 20: {typeOf[kinds.Veil]()},
	21: {typeOf[*kinds.Echo]()}, 22: {typeOf[*kinds.Guise]()},
	23: {typeOf[kinds.Box[int8]](), typeOf[kinds.Box[float64]](), typeOf[kinds.Box[[]uint8]]()},
	24: {typeOf[*kinds.Slow]()}, 25: {typeOf[kinds.Full]()}, 26: {typeOf[*kinds.Opaque]()},
}

// faceTypes are the faces' types, by their numbers.
var faceTypes = [20]reflect.Type{
	1: typeOf[error](), 2: typeOf[api.Grader](), 3: typeOf[api.Coder](), 4: typeOf[api.Weigher](), 5: typeOf[api.Phaser](),
	6: typeOf[api.Timer](), 7: typeOf[api.Liner](), 8: typeOf[api.Detailer](), 9: typeOf[api.One](), 10: typeOf[api.Many](),
	11: typeOf[api.Judge](), 12: typeOf[api.Lender](), 13: typeOf[api.Kinder](), 14: typeOf[api.Sizer](), 15: typeOf[api.TimedError](),
	16: typeOf[api.CodedCause](), 17: typeOf[api.Whole](), 18: typeOf[api.Nobody](), 19: typeOf[any](),
}

// holdsByType is whether a term holds of a value, as its type says it.
func holdsByType(t cases.Term, v error) bool {
	switch {
	case v == nil:
		return t == cases.Term{}
	case t.Face != 0:
		return reflect.TypeOf(v).Implements(faceTypes[t.Face])
	}
	return slices.Contains(types[t.Kind], reflect.TypeOf(v))
}

// chosen is what clauses choose, by the chapter's words, where it is known which
// terms hold.
func chosen(l []cases.Clause, holds func(t cases.Term) bool) cases.Choice {
	for i, c := range l {
		for k, t := range c.Terms {
			if holds(t) {
				return cases.Choice{Clause: i, Term: k, To: c.To}
			}
		}
	}
	for i, c := range l {
		if c.Default {
			return cases.Choice{Clause: i, Term: -1, To: c.To}
		}
	}
	return nothing
}

// chosenOf is what clauses choose for a kind, 0 being no error.
func chosenOf(l []cases.Clause, k uint8) cases.Choice {
	return chosen(l, func(t cases.Term) bool { return holdsOf(t, k) })
}

// allTerms are all that there are: 26 kinds, 19 faces, and no error.
func allTerms() []cases.Term {
	terms := []cases.Term{{}}
	for k := uint8(1); k <= 26; k++ {
		terms = append(terms, cases.Term{Kind: k})
	}
	for f := uint8(1); f <= 19; f++ {
		terms = append(terms, cases.Term{Face: f})
	}
	return terms
}

// dice throws numbers, the same ones each time.
type dice uint64

// below is a number from 0 to n - 1.
func (d *dice) below(n int) int {
	*d = *d*6364136223846793005 + 1442695040888963407
	return int(uint64(*d>>33) % uint64(n))
}

// terms are all terms, shuffled.
func (d *dice) terms() []cases.Term {
	terms := allTerms()
	for i := range terms {
		k := i + d.below(len(terms)-i)
		terms[i], terms[k] = terms[k], terms[i]
	}
	return terms
}

// clauses is a switch, of few terms or of many, with a default or without.
func (d *dice) clauses() []cases.Clause {
	terms := d.terms()
	terms = terms[:d.below(2+d.below(len(terms)))]
	var l []cases.Clause
	for len(terms) > 0 {
		n := 1 + d.below(min(len(terms), 1+d.below(6)))
		l = append(l, many(d.below(7)-3, slices.Clone(terms[:n])...))
		terms = terms[n:]
	}
	if d.below(2) == 0 {
		l = slices.Insert(l, d.below(len(l)+1), byDefault(d.below(7)-3))
	}
	return l
}

// equal is whether clauses are the same ones.
func equal(l, m []cases.Clause) bool {
	return slices.EqualFunc(l, m, func(c, d cases.Clause) bool {
		return c.Default == d.Default && c.To == d.To && slices.Equal(c.Terms, d.Terms)
	})
}

// copied are clauses that share nothing with others.
func copied(l []cases.Clause) []cases.Clause {
	l = slices.Clone(l)
	for i := range l {
		l[i].Terms = slices.Clone(l[i].Terms)
	}
	return l
}

// withRoom is a copy of a list with room behind its end, which is filled with x;
// and that room.
func withRoom[T any](list []T, x T) (copied, room []T) {
	copied = append(slices.Clone(list), x, x, x)
	return copied[:len(list)], copied[len(list):]
}

// wrong is a call that must answer zeros and the error.
func wrong(t *testing.T, call string, want, got api.Errno, results ...any) {
	t.Helper()
	if got != want {
		t.Errorf("%s: %d; want %d", call, got, want)
	}
	for _, r := range results {
		if v := reflect.ValueOf(r); !v.IsZero() && !(v.Kind() == reflect.Slice && v.Len() == 0) {
			t.Errorf("%s: %v beside the error", call, r)
		}
	}
}
