package cases_test

import (
	"math"
	"slices"
	"testing"

	"errata/api"
	"errata/book"
	"errata/cases"
)

// checked is what is wrong with clauses, by the chapter's words.
func checked(l []cases.Clause) (int, api.Errno) {
	terms := 0
	for _, c := range l {
		terms += len(c.Terms)
	}
	if len(l) > 64 || terms > 256 {
		return 0, api.ErrArg
	}
	for i, c := range l {
		if c.Default != (len(c.Terms) == 0) || slices.ContainsFunc(c.Terms, func(t cases.Term) bool { return !slices.Contains(allTerms(), t) }) {
			return i, api.ErrCase
		}
		var ahead []cases.Term
		for _, d := range l[:i] {
			ahead = append(ahead, d.Terms...)
			if d.Default && c.Default {
				return i, api.ErrAgain
			}
		}
		for k, t := range c.Terms {
			if slices.Contains(ahead, t) || slices.Contains(c.Terms[:k], t) {
				return i, api.ErrAgain
			}
		}
	}
	return 0, api.OK
}

// refused are clauses that may not be: what Check says, and that every call that
// is handed them answers that.
func refused(t *testing.T, l []cases.Clause, at int, want api.Errno) {
	t.Helper()
	if got, e := cases.Check(l); got != at || e != want {
		t.Errorf("Check(%v): %d, %d; want %d, %d", l, got, e, at, want)
	}
	c, e := cases.Pick(book.New(), 0, l)
	wrong(t, "Pick", want, e, c)
	for _, n := range []int{0, -1, len(l), at} {
		term, e := cases.Bound(l, n)
		wrong(t, "Bound", want, e, term)
	}
	table, e := cases.Table(l)
	wrong(t, "Table", want, e, table)
	dead, e := cases.Dead(l)
	wrong(t, "Dead", want, e, dead)
	trimmed, e := cases.Trim(l)
	wrong(t, "Trim", want, e, trimmed)
	s, e := cases.Compile(l)
	wrong(t, "Compile", want, e, s)
	for _, m := range [][]cases.Clause{nil, {kind(1, 1)}, {{}}, {byDefault(0), byDefault(0)}, slices.Repeat(clauses(kind(1, 1)), 65)} {
		same, e := cases.Same(l, m)
		wrong(t, "Same", want, e, same)
	}
	same, e := cases.Same(clauses(kind(1, 1), byDefault(2)), l)
	wrong(t, "Same of the second", want, e, same)
}

// allowed are clauses that may be.
func allowed(t *testing.T, l []cases.Clause) {
	t.Helper()
	if at, e := cases.Check(l); at != 0 || e != api.OK {
		t.Errorf("Check(%v): %d, %d", l, at, e)
	}
	if s, e := cases.Compile(l); s.Len() != len(l) || e != api.OK {
		t.Errorf("Compile(%v): of %d, %d", l, s.Len(), e)
	}
}

// P9.1: the chapter's examples of Check.
func TestExamplesOfCheck(t *testing.T) {
	refused(t, clauses(kind(27, 0)), 0, api.ErrCase)
	refused(t, clauses(byDefault(0), byDefault(0)), 1, api.ErrAgain)
	refused(t, clauses(kind(1, 0), face(2, 0), kind(1, 0)), 2, api.ErrAgain)
	refused(t, clauses(cases.Clause{}), 0, api.ErrCase)
	refused(t, slices.Repeat(clauses(kind(1, 0)), 65), 0, api.ErrArg)
}

// P9.1: which terms there are: of all pairs of numbers.
func TestCheckTerms(t *testing.T) {
	for k := range 256 {
		for f := range 256 {
			term := cases.Term{Kind: uint8(k), Face: uint8(f)}
			want := api.ErrCase
			if k <= 26 && f == 0 || k == 0 && f <= 19 {
				want = api.OK
			}
			if at, e := cases.Check(clauses(one(term, 1))); at != 0 || e != want {
				t.Fatalf("Check of %v: %d, %d; want %d", term, at, e, want)
			}
			if at, e := cases.Check(clauses(kind(26, 1), many(1, cases.Term{Face: 19}, cases.Term{Kind: 25}, term))); want != api.OK && (at != 1 || e != want) {
				t.Fatalf("Check of %v behind others: %d, %d; want %d", term, at, e, want)
			}
		}
	}
}

// P9.1: clauses that may be, up to all terms there are, and a default anywhere.
func TestCheckAllowed(t *testing.T) {
	terms := allTerms()
	var single []cases.Clause
	for i, term := range terms {
		single = append(single, one(term, i))
	}
	for _, l := range [][]cases.Clause{
		nil, {}, {byDefault(0)}, {{Terms: []cases.Term{}, Default: true}}, {many(math.MinInt, terms...)}, single,
		{many(1, terms...), byDefault(math.MaxInt)}, {byDefault(1), many(1, terms...)},
	} {
		allowed(t, l)
	}
	for i := range len(single) + 1 {
		allowed(t, slices.Insert(slices.Clone(single), i, byDefault(-1)))
	}
	var d dice
	for range 5000 {
		allowed(t, d.clauses())
	}
}

// P9.1, the limits: 64 clauses, 256 terms in all; one more is told ahead of all
// else. (So many are never all different.)
func TestCheckLimits(t *testing.T) {
	ok, bad := cases.Term{Kind: 1}, cases.Term{Kind: 27}
	for _, c := range []struct {
		l  []cases.Clause
		at int
		e  api.Errno
	}{
		{slices.Repeat(clauses(byDefault(0)), 64), 1, api.ErrAgain},
		{slices.Repeat(clauses(byDefault(0)), 65), 0, api.ErrArg},
		{slices.Repeat(clauses(cases.Clause{}), 65), 0, api.ErrArg},
		{slices.Repeat(clauses(kind(27, 0)), 64), 0, api.ErrCase},
		{slices.Repeat(clauses(kind(27, 0)), 100000), 0, api.ErrArg},
		{clauses(many(0, slices.Repeat([]cases.Term{ok}, 256)...)), 0, api.ErrAgain},
		{clauses(many(0, slices.Repeat([]cases.Term{ok}, 257)...)), 0, api.ErrArg},
		{clauses(many(0, slices.Repeat([]cases.Term{bad}, 256)...)), 0, api.ErrCase},
		{clauses(many(0, slices.Repeat([]cases.Term{bad}, 257)...)), 0, api.ErrArg},
		{clauses(kind(2, 0), many(0, slices.Repeat([]cases.Term{ok}, 255)...)), 1, api.ErrAgain},
		{clauses(kind(2, 0), many(0, slices.Repeat([]cases.Term{ok}, 256)...)), 0, api.ErrArg},
		{clauses(kind(2, 0), byDefault(0), many(0, slices.Repeat([]cases.Term{bad}, 255)...)), 2, api.ErrCase},
		{slices.Repeat(clauses(many(0, ok, ok, ok, ok)), 64), 0, api.ErrAgain},
		{append(slices.Repeat(clauses(many(0, ok, ok, ok, ok)), 63), many(0, ok, ok, ok, ok, ok)), 0, api.ErrArg},
		{append(clauses(byDefault(0)), slices.Repeat(clauses(many(0, ok, bad, ok, ok)), 63)...), 1, api.ErrCase},
	} {
		refused(t, c.l, c.at, c.e)
	}
}

// P9.1: the first clause with which something is wrong; in it ErrCase ahead of
// ErrAgain.
func TestCheckOrder(t *testing.T) {
	code, note, bad := cases.Term{Kind: 1}, cases.Term{Kind: 2}, cases.Term{Kind: 1, Face: 1}
	both := cases.Clause{Terms: []cases.Term{note}, Default: true}
	for _, c := range []struct {
		l  []cases.Clause
		at int
		e  api.Errno
	}{
		{clauses(both), 0, api.ErrCase},
		{clauses(byDefault(0), both), 1, api.ErrCase},
		{clauses(kind(2, 0), both), 1, api.ErrCase},
		{clauses(kind(1, 0), many(0, code, bad)), 1, api.ErrCase},
		{clauses(many(0, code, code, bad)), 0, api.ErrCase},
		{clauses(many(0, code, code), many(0, bad)), 0, api.ErrAgain},
		{clauses(many(0, bad), many(0, code, code)), 0, api.ErrCase},
		{clauses(many(0, code, note), many(0, cases.Term{}, note)), 1, api.ErrAgain},
		{clauses(noError(0), many(0, code, cases.Term{})), 1, api.ErrAgain},
		{clauses(kind(1, 0), byDefault(0), face(1, 0), byDefault(0), cases.Clause{}), 3, api.ErrAgain},
		{clauses(kind(1, 0), cases.Clause{}, kind(1, 0)), 1, api.ErrCase},
		{clauses(kind(1, 0), kind(1, 0), cases.Clause{}), 1, api.ErrAgain},
		{clauses(face(1, 0), kind(1, 0), kind(19, 0), face(19, 0), face(1, 0)), 4, api.ErrAgain},
		{clauses(cases.Clause{Terms: []cases.Term{bad}, Default: true}), 0, api.ErrCase},
	} {
		refused(t, c.l, c.at, c.e)
	}
}

// P9.1: clauses of which a few things are wrong, somewhere.
func TestCheckMany(t *testing.T) {
	var d dice
	var told [100]int
	for range 30000 {
		l := d.clauses()
		for range d.below(4) {
			if len(l) == 0 {
				break
			}
			c := &l[d.below(len(l))]
			switch d.below(6) {
			case 0:
				c.Default = !c.Default
			case 1:
				c.Terms = append(c.Terms, cases.Term{Kind: uint8(d.below(30)), Face: uint8(d.below(3))})
			case 2:
				c.Terms = append(c.Terms, cases.Term{Face: uint8(d.below(22))})
			case 3:
				c.Terms = slices.Concat(l[d.below(len(l))].Terms, c.Terms)
			case 4:
				c.Terms = nil
			case 5:
				l = append(l, l[d.below(len(l))])
			}
		}
		want, wantE := checked(l)
		if at, e := cases.Check(l); at != want || e != wantE {
			t.Fatalf("Check(%v): %d, %d; want %d, %d", l, at, e, want, wantE)
		}
		told[wantE]++
	}
	if told[api.OK] < 1000 || told[api.ErrCase] < 1000 || told[api.ErrAgain] < 1000 {
		t.Error(told[api.OK], "OK,", told[api.ErrCase], "ErrCase,", told[api.ErrAgain], "ErrAgain")
	}
}

// badHandles name none in a book of one error.
var badHandles = []int{-1, 2, 3, 1 << 16, 1 << 32, 1<<32 + 1, math.MaxInt, math.MinInt}

// The section 'Errors': in their order, the book, the handle, the clauses.
func TestWrongPicks(t *testing.T) {
	b := book.New()
	put(t, b, api.Spec{Kind: 1})
	s, _ := cases.Compile(clauses(byDefault(1)))
	for _, l := range [][]cases.Clause{nil, {kind(1, 1)}, {byDefault(1)}, {kind(27, 1)}, slices.Repeat(clauses(byDefault(1)), 65)} {
		for _, h := range append([]int{0, 1}, badHandles...) {
			c, e := cases.Pick(nil, h, l)
			wrong(t, "Pick of no book", api.ErrNil, e, c)
			c, e = s.Pick(nil, h)
			wrong(t, "Switch.Pick of no book", api.ErrNil, e, c)
		}
		for _, h := range badHandles {
			c, e := cases.Pick(b, h, l)
			wrong(t, "Pick", api.ErrHandle, e, c)
			c, e = s.Pick(b, h)
			wrong(t, "Switch.Pick", api.ErrHandle, e, c)
		}
	}
	var none *cases.Switch
	for _, h := range append([]int{0, 1}, badHandles...) {
		for _, b := range []*book.Book{nil, b} {
			c, e := none.Pick(b, h)
			wrong(t, "Pick of no switch", api.ErrNil, e, c)
		}
	}
	if none.Len() != 0 {
		t.Error("Len of no switch:", none.Len())
	}
}

// R1: a switch and a book that nobody made panic no more than others.
func TestBareObjects(t *testing.T) {
	s, b := new(cases.Switch), new(book.Book)
	s.Len()
	s.Pick(b, 0)
	s.Pick(b, 1)
	s.Pick(all(t), 5)
	cases.Fold(all(t), 5, s, []func(int, []int) int{})
	if c, e := cases.Pick(b, 0, clauses(noError(5))); c != (cases.Choice{To: 5}) || e != api.OK {
		t.Errorf("Pick of no error in a bare book: %v, %d", c, e)
	}
	c, e := cases.Pick(b, 1, clauses(noError(5)))
	wrong(t, "Pick in a bare book", api.ErrHandle, e, c)
}

// Bound is asked about a clause that there is.
func TestNoSuchClause(t *testing.T) {
	l := clauses(kind(1, 1), byDefault(2), face(3, 3))
	for _, n := range []int{-1, 3, 4, 1 << 32, math.MaxInt, math.MinInt} {
		term, e := cases.Bound(l, n)
		wrong(t, "Bound", api.ErrArg, e, term)
		term, e = cases.Bound(nil, n)
		wrong(t, "Bound of nothing", api.ErrArg, e, term)
	}
	term, e := cases.Bound(nil, 0)
	wrong(t, "Bound of nothing", api.ErrArg, e, term)
}
