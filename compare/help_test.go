package compare_test

import (
	"math"
	"reflect"
	"slices"
	"testing"

	"errata/api"
	"errata/book"
	"errata/compare"
	"errata/kinds"
)

var (
	nan    = math.NaN()
	minus0 = math.Copysign(0, -1)
)

// put makes an error that must be made: its handle.
func put(t testing.TB, b *book.Book, s api.Spec) int {
	t.Helper()
	h, e := b.Make(s)
	if e != api.OK {
		t.Fatalf("Make(%+v): %d", s, e)
	}
	return h
}

// fourteen is the book of the chapter's examples.
func fourteen(t testing.TB) *book.Book {
	t.Helper()
	b := book.New()
	for _, s := range []api.Spec{
		{Kind: api.KindCode, Number: 5}, {Kind: api.KindCode, Number: 5}, {Kind: api.KindLevel, Re: nan}, {Kind: api.KindBag},
		{Kind: api.KindHold, Text: "a", Parts: []int{4}}, {Kind: api.KindHold, Text: "b", Parts: []int{4}},
		{Kind: api.KindPlain, Text: "x"}, {Kind: api.KindPlain, Text: "x"}, {Kind: api.KindWrap, Nil: true},
		{Kind: api.KindOver, Text: "o", Parts: []int{5}}, {Kind: api.KindLevel, Re: minus0}, {Kind: api.KindLevel},
		{Kind: api.KindTimed, Flag: true, Parts: []int{4}}, {Kind: api.KindTimed, Parts: []int{4}},
	} {
		put(t, b, s)
	}
	return b
}

// nils puts each kind's typed nil, twice.
func nils(t testing.TB, b *book.Book) {
	t.Helper()
	for range 2 {
		for _, kind := range []uint8{6, 7, 8, 9, 10, 14, 16, 21, 22, 24, 26} {
			put(t, b, api.Spec{Kind: kind, Nil: true})
		}
		put(t, b, api.Spec{Kind: 23, Number: 3, Nil: true})
	}
}

// leaves puts errors without parts, of each kind some that differ in one field.
func leaves(t testing.TB, b *book.Book) {
	t.Helper()
	for _, s := range []api.Spec{
		{Kind: 1}, {Kind: 1, Number: 256}, {Kind: 2}, {Kind: 2, Text: "a"}, {Kind: 2, Text: "a\xff"},
		{Kind: 3}, {Kind: 3, Re: minus0}, {Kind: 3, Re: nan}, {Kind: 3, Re: 0.5},
		{Kind: 4}, {Kind: 4, Re: minus0, Im: minus0}, {Kind: 4, Re: nan}, {Kind: 4, Im: nan}, {Kind: 4, Im: 1}, {Kind: 4, Re: 1},
		{Kind: 5, Text: "abcd"}, {Kind: 5, Text: "abc\xff"}, {Kind: 6}, {Kind: 6, Items: []string{"a"}},
		{Kind: 7, Text: "a"}, {Kind: 7, Text: "a", Flag: true}, {Kind: 8}, {Kind: 9, Text: "a"}, {Kind: 10, Text: "a"},
		{Kind: 11}, {Kind: 11, Number: 1}, {Kind: 11, Text: "a"}, {Kind: 12}, {Kind: 12, Text: "a"}, {Kind: 12, Items: []string{"a"}},
		{Kind: 19}, {Kind: 19, Number: 1}, {Kind: 19, Re: 1}, {Kind: 19, Re: minus0}, {Kind: 19, Re: nan}, {Kind: 19, Number: 1, Re: nan},
		{Kind: 21, Text: "a"}, {Kind: 21, Text: "a", Flag: true}, {Kind: 22, Text: "a", Number: 5},
		{Kind: 23, Number: 1}, {Kind: 23, Number: 1, Small: -128}, {Kind: 23, Number: 2}, {Kind: 23, Number: 2, Re: minus0},
		{Kind: 23, Number: 2, Re: nan}, {Kind: 23, Number: 3}, {Kind: 23, Number: 3, Text: "a"},
		{Kind: 24, Text: "a"}, {Kind: 24, Text: "a", Flag: true},
	} {
		// Twice: what is made of one spec may be unlike all the same.
		put(t, b, s)
		put(t, b, s)
	}
}

// abouts puts errors about a part, in each way that a kind has; such a part as
// kind 18 or 25 may have is the only one that those are put about.
func abouts(t testing.TB, b *book.Book, part int) {
	t.Helper()
	parts := []int{part}
	for _, s := range []api.Spec{
		{Kind: 13}, {Kind: 13, Text: "a"}, {Kind: 14, Text: "a"}, {Kind: 15}, {Kind: 15, Text: "a"}, {Kind: 16},
		{Kind: 17}, {Kind: 17, Flag: true}, {Kind: 20}, {Kind: 26, Items: []string{"a"}},
	} {
		s.Parts = parts
		put(t, b, s)
	}
	kind, _ := b.Kind(part)
	if kind == api.KindPlain || part == 0 {
		put(t, b, api.Spec{Kind: 18, Parts: parts})
		put(t, b, api.Spec{Kind: 18, Number: 1, Parts: parts})
	}
	if kind == api.KindWrap || part == 0 {
		put(t, b, api.Spec{Kind: 25, Parts: parts})
		put(t, b, api.Spec{Kind: 25, Number: 1, Parts: parts})
		put(t, b, api.Spec{Kind: 25, Text: "a", Parts: parts})
	}
}

// all is a book with errors of each kind: nothings, leaves, errors about each of
// them and about no error, and some of those about others.
func all(t testing.TB) *book.Book {
	t.Helper()
	b := book.New()
	nils(t, b)
	leaves(t, b)
	for _, kind := range []uint8{13, 15, 17, 18, 20, 25} {
		put(t, b, api.Spec{Kind: kind}) // without a part, which is as about no error
	}
	n := b.Len()
	for part := range n + 1 {
		abouts(t, b, part)
	}
	for part := n + 1; part < b.Len() && part < 6*n; part += 7 {
		abouts(t, b, part)
	}
	return b
}

// some are handles of the book of all: so many that all pairs of them are soon
// gone through, with no error among them.
func some(b *book.Book) []int {
	hs := []int{0}
	for h := 1; h <= b.Len(); h++ {
		if h < 200 || h%5 == 0 {
			hs = append(hs, h)
		}
	}
	return hs
}

// specOf is a handle's spec; of 0 one of no kind.
func specOf(b *book.Book, h int) api.Spec {
	s, _ := b.Spec(h)
	return s
}

// held is the handle of the part that an error is about: 0, if there is none.
func held(s api.Spec) int {
	if len(s.Parts) == 0 {
		return 0
	}
	return s.Parts[0]
}

// sameIf is Same or Unlike.
func sameIf(is bool) int {
	if is {
		return api.Same
	}
	return api.Unlike
}

// inOrder is the first outcome that is not Same.
func inOrder(outcomes ...int) int {
	for _, o := range outcomes {
		if o != api.Same {
			return o
		}
	}
	return api.Same
}

// told is what comparing two errors comes to, as the chapter's Words tell it
// without the language: by the specs alone.
func told(b *book.Book, x, y int) int {
	s, r := specOf(b, x), specOf(b, y)
	if s.Kind != r.Kind || s.Kind == api.KindBox && s.Number != r.Number {
		return api.Unlike
	}
	// Within a Placed or a Full, no error is a nil pointer, too.
	isNil := func(h int) bool { return h == 0 || specOf(b, h).Nil }
	byPointer := func(x, y int) int { return sameIf(x == y || isNil(x) && isNil(y)) }
	text, number := sameIf(s.Text == r.Text), sameIf(s.Number == r.Number)
	switch s.Kind {
	case 0:
		return api.Same
	case 1:
		return number
	case 2, 5:
		return text
	case 3, 4:
		return inOrder(sameIf(s.Re == r.Re), sameIf(s.Im == r.Im))
	case 6, 7, 12:
		return api.Panics
	case 11:
		return inOrder(number, text)
	case 13, 15:
		return inOrder(text, told(b, held(s), held(r)))
	case 17:
		return inOrder(told(b, held(s), held(r)), sameIf(s.Flag == r.Flag))
	case 18, 25:
		return inOrder(byPointer(held(s), held(r)), number, text)
	case 19:
		return inOrder(number, sameIf(s.Re == r.Re))
	case 20:
		return told(b, held(s), held(r))
	case 23:
		return [...]int{1: sameIf(s.Small == r.Small), 2: sameIf(s.Re == r.Re), 3: api.Panics}[s.Number]
	}
	return byPointer(x, y)
}

// hasType is whether the type of a handle's error can be compared, as the
// chapter's Words list the types.
func hasType(b *book.Book, h int) bool {
	s := specOf(b, h)
	return s.Kind != api.KindTags && s.Kind != api.KindLazy && s.Kind != api.KindBag && (s.Kind != api.KindBox || s.Number != 3)
}

// mayBeKey is whether a handle's error may be a key, as the Words say it.
func mayBeKey(b *book.Book, h int) bool {
	s := specOf(b, h)
	switch s.Kind {
	case api.KindHold, api.KindOver, api.KindTimed, api.KindVeil:
		return mayBeKey(b, held(s))
	}
	return hasType(b, h)
}

// two is what Two answers of handles that there are.
func two(t testing.TB, b *book.Book, x, y int) int {
	t.Helper()
	o, e := compare.Two(b, x, y)
	if e != api.OK {
		t.Fatalf("Two(%d, %d): %d", x, y, e)
	}
	return o
}

// dice throws numbers, the same ones each time.
type dice uint64

// below is a number from 0 to n - 1.
func (d *dice) below(n int) int {
	*d = *d*6364136223846793005 + 1442695040888963407
	return int(uint64(*d>>33) % uint64(n))
}

// of is one of some handles.
func (d *dice) of(hs []int) int { return hs[d.below(len(hs))] }

// slows are a book's Slows that are no nil.
func slows(b *book.Book) []*kinds.Slow {
	var found []*kinds.Slow
	for _, v := range b.Each() {
		if s, ok := v.(*kinds.Slow); ok && s != nil {
			found = append(found, s)
		}
	}
	return found
}

// withRoom is a copy of a list with room behind its end, which is filled with x;
// and that room.
func withRoom[T any](list []T, x T) (copied, room []T) {
	copied = append(slices.Clone(list), x, x, x)
	return copied[:len(list)], copied[len(list):]
}

// wrong is a call that must answer zeros and the error.
func wrong(t *testing.T, call string, want, got api.Errno, results ...any) {
	t.Helper()
	if got != want {
		t.Errorf("%s: %d; want %d", call, got, want)
	}
	for _, r := range results {
		if r != nil && !reflect.ValueOf(r).IsZero() {
			t.Errorf("%s: %v beside the error", call, r)
		}
	}
}

// The help's book has errors of all kinds, each kind's typed nil, Slows that
// were not asked yet, and all three outcomes, of pairs of each sort.
func TestHelp(t *testing.T) {
	b := all(t)
	var kind, typed [27]int
	for h := range b.Each() {
		s := specOf(b, h)
		kind[s.Kind]++
		if s.Nil {
			typed[s.Kind]++
		}
	}
	for k := 1; k <= 26; k++ {
		if kind[k] == typed[k] {
			t.Errorf("none of kind %d", k)
		}
	}
	if typed != [27]int{6: 2, 7: 2, 8: 2, 9: 2, 10: 2, 14: 2, 16: 2, 21: 2, 22: 2, 23: 2, 24: 2, 26: 2} {
		t.Error("typed nils:", typed)
	}
	if len(slows(b)) != 4 {
		t.Error(len(slows(b)), "Slows")
	}
	outcomes := [27][4]int{}
	for _, x := range some(b) {
		for _, y := range some(b) {
			if s := specOf(b, x); s.Kind == specOf(b, y).Kind {
				outcomes[s.Kind][told(b, x, y)]++
			}
		}
	}
	for k := 1; k <= 26; k++ {
		n, panics := outcomes[k], slices.Contains([]int{6, 7, 12, 13, 15, 17, 20, 23}, k)
		always := slices.Contains([]int{6, 7, 12}, k)
		if (n[api.Same] > 0) == always || (n[api.Unlike] > 0) == always || (n[api.Panics] > 0) != panics {
			t.Errorf("outcomes of kind %d: %v", k, n)
		}
	}
}
