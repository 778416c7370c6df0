package probe_test

import (
	"math"
	"reflect"
	"slices"
	"strings"
	"testing"

	"errata/api"
	"errata/book"
	"errata/kinds"
	"errata/probe"
)

var (
	nan    = math.NaN()
	minus0 = math.Copysign(0, -1)

	// runtime is the panic of the language's own.
	runtime = api.Panic{Sort: api.RuntimePanic}
)

// own is the panic with a word.
func own(word string) api.Panic { return api.Panic{Sort: api.OwnPanic, Word: word} }

// put makes an error that must be made: its handle.
func put(t testing.TB, b *book.Book, s api.Spec) int {
	t.Helper()
	h, e := b.Make(s)
	if e != api.OK {
		t.Fatalf("Make(%+v): %d", s, e)
	}
	return h
}

// five is the book of the chapter's examples.
func five(t testing.TB) *book.Book {
	t.Helper()
	b := book.New()
	for _, s := range []api.Spec{
		{Kind: api.KindCode, Number: 7}, {Kind: api.KindPlain, Nil: true}, {Kind: api.KindWrap, Text: "w", Parts: []int{1}},
		{Kind: api.KindBag}, {Kind: api.KindEcho, Text: "e", Flag: true},
	} {
		put(t, b, s)
	}
	return b
}

// nils puts each kind's typed nil.
func nils(t testing.TB, b *book.Book) {
	t.Helper()
	for _, kind := range []uint8{6, 7, 8, 9, 10, 14, 16, 21, 22, 24, 26} {
		put(t, b, api.Spec{Kind: kind, Nil: true})
	}
	put(t, b, api.Spec{Kind: 23, Number: 3, Nil: true})
}

// leaves puts errors without parts, of each kind some.
func leaves(t testing.TB, b *book.Book) {
	t.Helper()
	for _, s := range []api.Spec{
		{Kind: 1, Number: 300}, {Kind: 1, Number: -129}, {Kind: 1, Number: 300}, {Kind: 2, Text: "code"}, {Kind: 2, Text: "a\xff"}, {Kind: 2},
		{Kind: 3, Re: minus0}, {Kind: 3, Re: nan}, {Kind: 3, Re: 0.5}, {Kind: 4, Re: 1, Im: minus0}, {Kind: 4, Re: nan, Im: 2},
		{Kind: 5, Text: "abc\xff"}, {Kind: 6}, {Kind: 6, Items: []string{"b", "a", "b"}, Number: 32767},
		{Kind: 7, Text: "lazy"}, {Kind: 7, Text: "own lazy", Flag: true}, {Kind: 8}, {Kind: 9, Text: "plain"},
		{Kind: 10, Text: "quiet"}, {Kind: 10, Text: "long", Flag: true}, {Kind: 11, Number: -32768, Text: "coded"}, {Kind: 11},
		{Kind: 12, Text: "bag"}, {Kind: 12, Text: "bag", Items: []string{"i", "", "\x00"}},
		{Kind: 19, Number: 511, Re: minus0}, {Kind: 19, Re: nan},
		{Kind: 21}, {Kind: 21, Text: "code"}, {Kind: 21, Text: "own echo", Flag: true}, {Kind: 22, Text: "guise", Number: 5}, {Kind: 22},
		{Kind: 23, Number: 1, Small: -128}, {Kind: 23, Number: 2, Re: nan}, {Kind: 23, Number: 2, Re: 1}, {Kind: 23, Number: 3, Text: "box"},
		{Kind: 24, Text: "slow"}, {Kind: 24, Text: "own slow", Flag: true},
	} {
		put(t, b, s)
	}
}

// abouts puts errors about a part, of each kind that may be.
func abouts(t testing.TB, b *book.Book, part int) {
	t.Helper()
	parts := []int{part}
	for _, s := range []api.Spec{
		{Kind: 13, Text: "hold"}, {Kind: 14, Text: "wrap"}, {Kind: 15, Text: "over"}, {Kind: 16}, {Kind: 17}, {Kind: 17, Flag: true},
		{Kind: 20}, {Kind: 26, Text: "opaque", Items: []string{"name"}, Mask: 5},
	} {
		s.Parts = parts
		put(t, b, s)
	}
	kind, _ := b.Kind(part)
	if kind == api.KindPlain || part == 0 {
		put(t, b, api.Spec{Kind: 18, Number: -300, Parts: parts})
	}
	if kind == api.KindWrap || part == 0 {
		put(t, b, api.Spec{Kind: 25, Number: 1000, Text: "full", Parts: parts})
	}
}

// all is a book with errors of each kind: nothings, leaves, errors about each of
// them and about no error, some of those about others, and some about many.
func all(t testing.TB) *book.Book {
	t.Helper()
	b := book.New()
	nils(t, b)
	leaves(t, b)
	for _, kind := range []uint8{13, 14, 15, 16, 17, 18, 20, 25} {
		put(t, b, api.Spec{Kind: kind})
	}
	put(t, b, api.Spec{Kind: 26, Items: []string{"n"}})
	n := b.Len()
	for part := range n + 1 {
		abouts(t, b, part)
	}
	m := b.Len()
	for part := n + 1; part < m; part++ {
		if kind, _ := b.Kind(part); part%7 == 0 || kind == api.KindWrap {
			abouts(t, b, part)
		}
	}
	for _, kind := range []uint8{16, 26} {
		for _, parts := range [][]int{{1, 0, 2}, {0, 0}, {13, 13, 14, m, 0}, slices.Repeat([]int{13, 0}, 32)} {
			s := api.Spec{Kind: kind, Parts: parts}
			if kind == 26 {
				s.Items = []string{"many"}
			}
			put(t, b, s)
		}
	}
	return b
}

// heldByKind is chapter 4's table: which faces a kind has, but for error and any.
var heldByKind = [27][]uint8{
	1: {2, 13}, 2: {13}, 3: {4, 13}, 4: {5}, 6: {14}, 10: {6, 15}, 11: {2, 3}, 12: {8}, 14: {9}, 15: {9}, 16: {10}, 17: {6, 15},
	18: {7}, 19: {2, 4}, 21: {11}, 22: {12}, 25: {2, 3, 9, 16}, 26: {10},
}

// holds is whether a handle's error holds a face, by that table.
func holds(b *book.Book, h int, face uint8) bool {
	s := specOf(b, h)
	return h != 0 && (face == api.FaceError || face == api.FaceAny || slices.Contains(heldByKind[s.Kind], face))
}

// specOf is a handle's spec; of 0 one of no kind.
func specOf(b *book.Book, h int) api.Spec {
	s, _ := b.Spec(h)
	return s
}

// about is the handle of the part that an error is about: 0, if there is none.
func about(s api.Spec) int {
	if len(s.Parts) == 0 {
		return 0
	}
	return s.Parts[0]
}

// compared is what comparing two errors comes to, as chapter 7's Words tell it
// without the language: by the specs alone.
func compared(b *book.Book, x, y int) int {
	s, r := specOf(b, x), specOf(b, y)
	if s.Kind != r.Kind || s.Kind == api.KindBox && s.Number != r.Number {
		return api.Unlike
	}
	// Within a Placed or a Full, no error is a nil pointer, too.
	isNil := func(h int) bool { return h == 0 || specOf(b, h).Nil }
	byPointer := func(x, y int) int { return sameIf(x == y || isNil(x) && isNil(y)) }
	text, number := sameIf(s.Text == r.Text), sameIf(s.Number == r.Number)
	floats := inOrder(sameIf(s.Re == r.Re), sameIf(s.Im == r.Im))
	switch s.Kind {
	case 6, 7, 12:
		return api.Panics
	case 0, 1, 2, 3, 4, 5, 11, 19:
		return inOrder(number, text, floats)
	case 13, 15, 20:
		return inOrder(text, compared(b, about(s), about(r)))
	case 17:
		return inOrder(compared(b, about(s), about(r)), sameIf(s.Flag == r.Flag))
	case 18, 25:
		return inOrder(byPointer(about(s), about(r)), number, text)
	case 23:
		return [...]int{1: sameIf(s.Small == r.Small), 2: floats, 3: api.Panics}[s.Number]
	}
	return byPointer(x, y)
}

// sameIf is Same or Unlike.
func sameIf(is bool) int {
	if is {
		return api.Same
	}
	return api.Unlike
}

// inOrder is the first outcome that is not Same.
func inOrder(outcomes ...int) int {
	for _, o := range outcomes {
		if o != api.Same {
			return o
		}
	}
	return api.Same
}

// The forms in which a call is told.

func boolean(is bool) api.Value {
	if is {
		return api.Value{Kind: api.ValBool, Int: 1}
	}
	return api.Value{Kind: api.ValBool}
}

func number(n int64) api.Value { return api.Value{Kind: api.ValInt, Int: n} }

func text(s string) api.Value { return api.Value{Kind: api.ValText, Text: s} }

func list(of ...api.Value) api.Value { return api.Value{Kind: api.ValList, List: of} }

// unwraps are the handles that a handle's Unwrap tells, by the words of chapter
// 4; panics is whether it does.
func unwraps(b *book.Book, h int) (hs []int, panics bool) {
	s := specOf(b, h)
	switch {
	case s.Nil:
		return nil, true
	case s.Kind == api.KindFull:
		if about(s) == 0 {
			return nil, true
		}
		return unwraps(b, about(s))
	case s.Kind == api.KindJoin || s.Kind == api.KindOpaque:
		return s.Parts, false
	}
	return []int{about(s)}, false
}

// judged is what Is of an Echo tells.
func judged(b *book.Book, s api.Spec, target int) (api.Value, api.Panic) {
	switch {
	case s.Nil:
		return api.Value{}, runtime
	case s.Flag:
		return api.Value{}, own(s.Text)
	case target == 0:
		return api.Value{}, runtime
	}
	told, p, _ := b.Text(target)
	if p.Sort != api.NoPanic {
		return api.Value{}, p
	}
	return boolean(strings.HasPrefix(told, s.Text)), api.Panic{}
}

// toldBy is what a call of a face tells, as the words of chapters 4 and 8 say
// it, by the specs; but what Error tells is asked of the book.
func toldBy(b *book.Book, h int, face uint8, target, n int) (v api.Value, p api.Panic) {
	if !holds(b, h, face) {
		return api.Value{}, runtime
	}
	s := specOf(b, h)
	hs, unwrapPanics := unwraps(b, h)
	if unwrapPanics && (face == 9 || face == 10 || face == 16) || s.Nil && face == 12 {
		return api.Value{}, runtime
	}
	said, said1, _ := b.Text(h)
	if said1.Sort != api.NoPanic && (face == 1 || face == 15) {
		return api.Value{}, said1
	}
	switch face {
	case 1:
		v = text(said)
	case 2:
		v = number(int64(int8(s.Number)))
	case 3, 7:
		v = number(int64(s.Number))
	case 4:
		v = api.Value{Kind: api.ValFloat, Re: s.Re}
	case 5:
		v = api.Value{Kind: api.ValComplex, Re: s.Re, Im: s.Im}
	case 6:
		v = boolean(s.Flag)
	case 8:
		v = list()
		for _, item := range s.Items {
			v.List = append(v.List, text(item))
		}
	case 9:
		v = boolean(hs[0] != 0)
	case 10:
		v = number(int64(len(hs)))
	case 11:
		return judged(b, s, target)
	case 12:
		v = list(boolean(false), number(0))
		if n == 0 || n == 1 {
			v = list(boolean(true), number(int64(s.Number)))
		}
	case 13:
		v = number(int64(s.Kind))
	case 14:
		v = number(int64(len(slices.Compact(slices.Sorted(slices.Values(s.Items))))))
	case 15:
		v = list(text(said), boolean(s.Flag))
	case 16:
		v = list(boolean(hs[0] != 0), number(int64(s.Number)))
	}
	return v, p
}

// alike is whether two answers are, NaN being NaN and an empty list none.
func alike(v, w api.Value) bool {
	float := func(x, y float64) bool {
		return x != x && y != y || math.Float64bits(x) == math.Float64bits(y)
	}
	return v.Kind == w.Kind && v.Int == w.Int && float(v.Re, w.Re) && float(v.Im, w.Im) && v.Text == w.Text && slices.EqualFunc(v.List, w.List, alike)
}

func alikeOut(o, p api.Out) bool {
	return o.At == p.At && o.Flag == p.Flag && o.Panic == p.Panic && alike(o.Value, p.Value)
}

// dice throws numbers, the same ones each time.
type dice uint64

// below is a number from 0 to n - 1.
func (d *dice) below(n int) int {
	*d = *d*6364136223846793005 + 1442695040888963407
	return int(uint64(*d>>33) % uint64(n))
}

// withRoom is a copy of a list with room behind its end, which is filled with x;
// and that room.
func withRoom[T any](list []T, x T) (copied, room []T) {
	copied = append(slices.Clone(list), x, x, x)
	return copied[:len(list)], copied[len(list):]
}

// slows are a book's Slows that are no nil.
func slows(b *book.Book) []*kinds.Slow {
	var found []*kinds.Slow
	for _, v := range b.Each() {
		if s, ok := v.(*kinds.Slow); ok && s != nil {
			found = append(found, s)
		}
	}
	return found
}

// wrong is a call that must answer zeros and the error.
func wrong(t *testing.T, call string, want, got api.Errno, results ...any) {
	t.Helper()
	if got != want {
		t.Errorf("%s: %d; want %d", call, got, want)
	}
	for _, r := range results {
		if !reflect.ValueOf(r).IsZero() {
			t.Errorf("%s: %v beside the error", call, r)
		}
	}
}

// plays is a run that must tell this.
func plays(t *testing.T, b *book.Book, code []api.Op, outs []api.Out, end, steps int) {
	t.Helper()
	got, gotEnd, gotSteps, e := probe.Run(b, code)
	if e != api.OK || gotEnd != end || gotSteps != steps || !slices.EqualFunc(got, outs, alikeOut) {
		t.Errorf("%+v: %+v, %d, %d, %d; want %+v, %d, %d", few(code), few(got), gotEnd, gotSteps, e, few(outs), end, steps)
	}
}

// few is a list's beginning: a whole one may be too long to be told.
func few[T any](of []T) []T { return of[:min(len(of), 50)] }

// The help's book has errors of all kinds, each kind's typed nil, Slows that
// were not asked yet, and all three outcomes of comparing.
func TestHelp(t *testing.T) {
	b := all(t)
	var kind, typed [27]int
	for h := range b.Each() {
		s := specOf(b, h)
		kind[s.Kind]++
		if s.Nil {
			typed[s.Kind]++
		}
	}
	for k := 1; k <= 26; k++ {
		if kind[k] == typed[k] {
			t.Errorf("none of kind %d", k)
		}
	}
	if typed != [27]int{6: 1, 7: 1, 8: 1, 9: 1, 10: 1, 14: 1, 16: 1, 21: 1, 22: 1, 23: 1, 24: 1, 26: 1} {
		t.Error("typed nils:", typed)
	}
	if n := len(slows(b)); n != 2 || b.Len() < 500 || b.Len() > 2000 {
		t.Error(n, "Slows of", b.Len())
	}
	var outcomes [4]int
	for x := range b.Each() {
		for y := range b.Each() {
			outcomes[compared(b, x, y)]++
		}
	}
	if outcomes[api.Same] <= b.Len()/2 || outcomes[api.Unlike] == 0 || outcomes[api.Panics] == 0 {
		t.Error("outcomes:", outcomes)
	}
}
