package cases_test

import (
	"slices"
	"testing"

	"errata/api"
	"errata/cases"
)

// tabled is what each kind chooses, 0 being no error.
func tabled(l []cases.Clause) (all [27]cases.Choice) {
	for k := range all {
		all[k] = chosenOf(l, uint8(k))
	}
	return all
}

// dead is what Dead tells, by the chapter's words.
func dead(l []cases.Clause) []cases.Choice {
	all := tabled(l)
	var dead []cases.Choice
	for i, c := range l {
		if c.Default && !slices.ContainsFunc(all[:], func(c cases.Choice) bool { return c.Term < 0 }) {
			dead = append(dead, cases.Choice{Clause: i, Term: -1, To: c.To})
		}
		for k := range c.Terms {
			if !slices.ContainsFunc(all[:], func(c cases.Choice) bool { return c.Clause == i && c.Term == k }) {
				dead = append(dead, cases.Choice{Clause: i, Term: k, To: c.To})
			}
		}
	}
	return dead
}

// trimmed is what Trim tells of clauses of which that is dead.
func trimmed(l []cases.Clause, dead []cases.Choice) []cases.Clause {
	var left []cases.Clause
	for i, c := range l {
		d := cases.Clause{Default: c.Default, To: c.To}
		for k, t := range c.Terms {
			if !slices.Contains(dead, cases.Choice{Clause: i, Term: k, To: c.To}) {
				d.Terms = append(d.Terms, t)
			}
		}
		if len(d.Terms) > 0 || d.Default && !slices.Contains(dead, cases.Choice{Clause: i, Term: -1, To: c.To}) {
			left = append(left, d)
		}
	}
	return left
}

// leadAlike is whether two switches choose alike, by the chapter's words.
func leadAlike(l, m []cases.Clause) bool {
	all, others := tabled(l), tabled(m)
	for k := range all {
		if all[k].To != others[k].To || (all[k] == nothing) != (others[k] == nothing) {
			return false
		}
	}
	return true
}

// tells is what Table, Dead and Trim tell of clauses, held against the words;
// and that the trimmed ones are as is promised.
func tells(t *testing.T, l []cases.Clause) {
	t.Helper()
	var want [27]int
	for k, c := range tabled(l) {
		want[k] = c.Clause
	}
	if got, e := cases.Table(l); got != want || e != api.OK {
		t.Fatalf("Table(%v): %v, %d; want %v", l, got, e, want)
	}
	wantDead := dead(l)
	if got, e := cases.Dead(l); !slices.Equal(got, wantDead) || e != api.OK {
		t.Fatalf("Dead(%v): %v, %d; want %v", l, got, e, wantDead)
	}
	trim, e := cases.Trim(l)
	if !equal(trim, trimmed(l, wantDead)) || e != api.OK {
		t.Fatalf("Trim(%v): %v, %d; want %v", l, trim, e, trimmed(l, wantDead))
	}
	if at, e := cases.Check(trim); at != 0 || e != api.OK {
		t.Fatalf("Check(Trim(%v)): %d, %d", l, at, e)
	}
	if got, e := cases.Dead(trim); len(got) != 0 || e != api.OK {
		t.Fatalf("Dead(Trim(%v)): %v, %d", l, got, e)
	}
	if same, e := cases.Same(l, trim); !same || e != api.OK {
		t.Fatalf("Same(%v, Trim): %t, %d", l, same, e)
	}
	if again, e := cases.Trim(trim); !equal(again, trim) || e != api.OK {
		t.Fatalf("Trim(Trim(%v)): %v, %d", l, again, e)
	}
}

// P9.4, P9.5: the chapter's examples of Dead, Trim and Same.
func TestExamplesOfTables(t *testing.T) {
	for _, c := range []struct {
		l    []cases.Clause
		want []cases.Choice
	}{
		{clauses(face(api.FaceError, 1), kind(api.KindCode, 2), byDefault(3)), []cases.Choice{{Clause: 1, To: 2}}},
		{clauses(face(api.FaceAny, 1), noError(2), byDefault(3)), []cases.Choice{{Clause: 2, Term: -1, To: 3}}},
		{clauses(face(api.FaceNobody, 1)), []cases.Choice{{To: 1}}},
	} {
		if got, e := cases.Dead(c.l); !slices.Equal(got, c.want) || e != api.OK {
			t.Errorf("Dead(%v): %v, %d", c.l, got, e)
		}
	}
	trim, e := cases.Trim(clauses(face(api.FaceError, 1), kind(api.KindCode, 2), byDefault(3)))
	if !equal(trim, clauses(face(api.FaceError, 1), byDefault(3))) || e != api.OK {
		t.Errorf("Trim: %v, %d", trim, e)
	}
	for _, c := range []struct {
		l, m []cases.Clause
		want bool
	}{
		{clauses(face(api.FaceTimedError, 1)), clauses(face(api.FaceTimer, 1)), true},
		{clauses(kind(api.KindCode, 1)), clauses(face(api.FaceKinder, 1)), false},
	} {
		if same, e := cases.Same(c.l, c.m); same != c.want || e != api.OK {
			t.Errorf("Same(%v, %v): %t, %d", c.l, c.m, same, e)
		}
	}
}

// P9.4, P9.5: the edges: no clauses, a clause whose last terms are dead, a term
// that is dead within its own clause, terms that are dead only together.
func TestTableEdges(t *testing.T) {
	var none [27]int
	for k := range none {
		none[k] = -1
	}
	if table, e := cases.Table(nil); table != none || e != api.OK {
		t.Errorf("Table of nothing: %v, %d", table, e)
	}
	if table, e := cases.Table(clauses(byDefault(5))); table != [27]int{} || e != api.OK {
		t.Errorf("Table of a default: %v, %d", table, e)
	}
	code, grader, coder, full := cases.Term{Kind: 1}, cases.Term{Face: 2}, cases.Term{Face: 3}, cases.Term{Kind: 25}
	for _, c := range []struct {
		l, trim []cases.Clause
		dead    []cases.Choice
	}{
		{nil, nil, nil},
		{clauses(byDefault(1)), clauses(byDefault(1)), nil},
		{clauses(face(18, 1), byDefault(2), face(17, 3)), clauses(byDefault(2)), []cases.Choice{{To: 1}, {Clause: 2, To: 3}}},
		{clauses(many(7, grader, code, full)), clauses(one(grader, 7)), []cases.Choice{{Term: 1, To: 7}, {Term: 2, To: 7}}},
		{clauses(many(7, code, full), many(8, coder, cases.Term{Kind: 11}, grader)), clauses(many(7, code, full), many(8, coder, grader)), []cases.Choice{{Clause: 1, Term: 1, To: 8}}},
		{clauses(many(7, cases.Term{Kind: 10}, cases.Term{Kind: 17}), face(6, 8), face(15, 9)), clauses(many(7, cases.Term{Kind: 10}, cases.Term{Kind: 17})), []cases.Choice{{Clause: 1, To: 8}, {Clause: 2, To: 9}}},
		{clauses(face(16, 1), kind(25, 2)), clauses(face(16, 1)), []cases.Choice{{Clause: 1, To: 2}}},
		{clauses(byDefault(1), face(1, 2)), clauses(byDefault(1), face(1, 2)), nil},
		{clauses(byDefault(1), noError(3), face(1, 2)), clauses(noError(3), face(1, 2)), []cases.Choice{{Term: -1, To: 1}}},
		{clauses(face(19, 1), noError(0), byDefault(0)), clauses(face(19, 1), noError(0)), []cases.Choice{{Clause: 2, Term: -1}}},
	} {
		if got, e := cases.Dead(c.l); !slices.Equal(got, c.dead) || e != api.OK {
			t.Errorf("Dead(%v): %v, %d; want %v", c.l, got, e, c.dead)
		}
		if got, e := cases.Trim(c.l); !equal(got, c.trim) || e != api.OK {
			t.Errorf("Trim(%v): %v, %d; want %v", c.l, got, e, c.trim)
		}
		tells(t, c.l)
	}
}

// P9.4: a default is dead just if the terms choose for all kinds and for no
// error; each of them alone keeps it.
func TestDeadDefault(t *testing.T) {
	var every []cases.Term
	for k := range uint8(27) {
		every = append(every, cases.Term{Kind: k})
	}
	for place := range 2 {
		l := slices.Insert(clauses(many(1, every...)), place, byDefault(2))
		if got, e := cases.Dead(l); !slices.Equal(got, []cases.Choice{{Clause: place, Term: -1, To: 2}}) || e != api.OK {
			t.Errorf("Dead(%v): %v, %d", l, got, e)
		}
		tells(t, l)
		for k := range every {
			l[1-place].Terms = slices.Delete(slices.Clone(every), k, k+1)
			if got, e := cases.Dead(l); len(got) != 0 || e != api.OK {
				t.Errorf("Dead without kind %d: %v, %d", k, got, e)
			}
			want := [27]int{}
			for i := range want {
				want[i] = 1 - place
			}
			want[k] = place
			if got, e := cases.Table(l); got != want || e != api.OK {
				t.Errorf("Table without kind %d: %v, %d", k, got, e)
			}
		}
	}
}

// P9.4, P9.5, P9.8: all pairs of terms, in one clause and in two, without a
// default, with one behind and one between.
func TestTablesOfTwo(t *testing.T) {
	terms := allTerms()
	for i, first := range terms {
		for k, other := range terms {
			if i == k {
				continue
			}
			l := clauses(one(first, 1), one(other, 2))
			switch (i + k) % 4 {
			case 1:
				l = clauses(many(1, first, other))
			case 2:
				l = append(l, byDefault(3))
			case 3:
				l = slices.Insert(l, 1, byDefault(3))
			}
			tells(t, l)
		}
	}
}

// P9.4, P9.5, P9.8: many switches; and what Pick chooses for errors by them is
// what the table says of their kinds.
func TestTablesOfMany(t *testing.T) {
	b := all(t)
	var d dice
	deadOnes, deadDefaults := 0, 0
	for range 3000 {
		l := d.clauses()
		tells(t, l)
		for _, c := range dead(l) {
			deadOnes++
			if c.Term < 0 {
				deadDefaults++
			}
		}
		table, _ := cases.Table(l)
		for range 5 {
			h := d.below(b.Len() + 1)
			s, _ := b.Spec(h)
			if c, e := cases.Pick(b, h, l); c.Clause != table[s.Kind] || e != api.OK {
				t.Fatalf("Pick(%d, %v): %v, %d; of the kind %d: %d", h, l, c, e, s.Kind, table[s.Kind])
			}
		}
	}
	if deadOnes < 1000 || deadDefaults < 50 {
		t.Error(deadOnes, "are dead, of these", deadDefaults, "defaults")
	}
}

// P9.8: a term that is not dead chooses for some kind, a dead one for none: told
// apart in clauses of their own.
func TestLiveTermsChoose(t *testing.T) {
	var d dice
	for range 3000 {
		l := d.clauses()
		dead, _ := cases.Dead(l)
		var apart []cases.Clause
		var were []cases.Choice
		for i, c := range l {
			if c.Default {
				apart, were = append(apart, c), append(were, cases.Choice{Clause: i, Term: -1, To: c.To})
			}
			for k, term := range c.Terms {
				apart, were = append(apart, one(term, c.To)), append(were, cases.Choice{Clause: i, Term: k, To: c.To})
			}
		}
		table, e := cases.Table(apart)
		for i, c := range were {
			if e != api.OK || slices.Contains(table[:], i) == slices.Contains(dead, c) {
				t.Fatalf("%v: dead are %v; apart: %v, %d", l, dead, table, e)
			}
		}
	}
}

// P9.5: Same: by where clauses lead alone, nothing being unlike what leads to 0;
// whichever comes first.
func TestSame(t *testing.T) {
	var d dice
	same := 0
	check := func(l, m []cases.Clause) {
		want := leadAlike(l, m)
		if got, e := cases.Same(l, m); got != want || e != api.OK {
			t.Fatalf("Same(%v, %v): %t, %d", l, m, got, e)
		}
		if got, e := cases.Same(m, l); got != want || e != api.OK {
			t.Fatalf("Same(%v, %v): %t, %d", m, l, got, e)
		}
		if want {
			same++
		}
	}
	for range 3000 {
		l := d.clauses()
		m := copied(l)
		check(l, l)
		for i := range m {
			k := d.below(len(m))
			switch d.below(4) {
			case 0:
				m[i], m[k] = m[k], m[i]
			case 1:
				m[i].To = m[k].To
			case 2:
				slices.Reverse(m[i].Terms)
			}
		}
		check(l, m)
		check(l, d.clauses())
	}
	if same < 4000 {
		t.Error(same, "are the same")
	}
	every := clauses(many(0, cases.Term{}, cases.Term{Face: 1}))
	for _, c := range []struct {
		l, m []cases.Clause
		want bool
	}{
		{nil, nil, true}, {nil, clauses(byDefault(0)), false}, {nil, clauses(byDefault(-1)), false}, {nil, clauses(face(18, 1)), true},
		{clauses(byDefault(0)), every, true}, {clauses(byDefault(1)), every, false}, {clauses(noError(0)), nil, false},
		{clauses(kind(1, 0)), clauses(kind(1, 0), byDefault(0)), false}, {clauses(face(1, 3)), clauses(face(19, 3)), true},
		{clauses(kind(10, 3), kind(17, 3)), clauses(face(6, 3)), true}, {clauses(kind(10, 3), kind(17, 4)), clauses(face(6, 3)), false},
		{clauses(face(1, 1)), clauses(face(1, 1), noError(2)), false}, {clauses(kind(26, 1)), clauses(kind(25, 1)), false},
	} {
		if leadAlike(c.l, c.m) != c.want {
			t.Errorf("the words of %v, %v: %t", c.l, c.m, !c.want)
		}
		check(c.l, c.m)
	}
}

// P9.5, the section 'Errors': what is wrong with the first is told, then with
// the second.
func TestSameWrong(t *testing.T) {
	bad := [][]cases.Clause{{{}}, {byDefault(0), byDefault(0)}, slices.Repeat(clauses(byDefault(0)), 65)}
	errors := []api.Errno{api.ErrCase, api.ErrAgain, api.ErrArg}
	for i, l := range bad {
		for k, m := range bad {
			same, e := cases.Same(l, m)
			wrong(t, "Same", errors[i], e, same)
			same, e = cases.Same(nil, m)
			wrong(t, "Same", errors[k], e, same)
		}
	}
}

// R3: the lists of an answer are new memory, of which no two share any, and no
// answer changes another one.
func TestListsAreNew(t *testing.T) {
	l := clauses(many(1, cases.Term{Kind: 1}, cases.Term{Kind: 2}, cases.Term{Kind: 3}), many(2, cases.Term{Kind: 4}, cases.Term{Kind: 5}, cases.Term{Face: 18}), byDefault(3))
	want := clauses(l[0], many(2, cases.Term{Kind: 4}, cases.Term{Kind: 5}), l[2])
	was := copied(l)
	got, _ := cases.Trim(l)
	other, _ := cases.Trim(l)
	dead, _ := cases.Dead(l)
	otherDead, _ := cases.Dead(l)
	for i := range got {
		c := &got[i]
		for k := len(c.Terms); k < cap(c.Terms); k++ {
			c.Terms[:cap(c.Terms)][k] = cases.Term{Kind: 99}
		}
		if !equal(got, want) {
			t.Error("the lists share their room:", got)
		}
	}
	for i := range got {
		for k := range got[i].Terms {
			got[i].Terms[k] = cases.Term{Kind: 99}
		}
		got[i] = cases.Clause{}
	}
	for i := range dead[:cap(dead)] {
		dead[:cap(dead)][i] = cases.Choice{}
	}
	if !equal(other, want) || !equal(l, was) || !slices.Equal(otherDead, []cases.Choice{{Clause: 1, Term: 2, To: 2}}) {
		t.Error("an answer was changed:", other, l, otherDead)
	}
}
