package place_test

import (
	"math"
	"slices"
	"testing"

	"errata/api"
	"errata/place"
)

// run is a run of what stack reads.
func run(s string, times int) place.Run { return place.Run{Places: stack(s), Times: times} }

func sameRuns(a, b []place.Run) bool {
	return slices.EqualFunc(a, b, func(x, y place.Run) bool {
		return x.Times == y.Times && slices.Equal(x.Places, y.Places)
	})
}

// P3.5.
func TestFoldExamples(t *testing.T) {
	for _, x := range []struct {
		l    string
		want []place.Run
	}{
		{"m:1 f:2 f:2 f:2 g:3", []place.Run{run("m:1", 1), run("f:2", 3), run("g:3", 1)}},
		{"a:1 b:1 a:1 b:1 c:1", []place.Run{run("a:1 b:1", 2), run("c:1", 1)}},
		{"a:1 a:1 a:1 a:1", []place.Run{run("a:1", 4)}},
		{"", nil},
		{"a:1", []place.Run{run("a:1", 1)}},
		{"a:1 a:2", []place.Run{run("a:1 a:2", 1)}},
		{"a:1 b:1 c:1", []place.Run{run("a:1 b:1 c:1", 1)}},
		{"a:1 b:1 c:1 c:1 d:1 e:1", []place.Run{run("a:1 b:1", 1), run("c:1", 2), run("d:1 e:1", 1)}},
		{"a:1 a:1 b:1 b:1", []place.Run{run("a:1", 2), run("b:1", 2)}},
		// The greater block is taken, though a lesser one stands there, too.
		{"a:1 a:1 b:1 a:1 a:1 b:1", []place.Run{run("a:1 a:1 b:1", 2)}},
		// Three times one is less than two times two; three times two is what three times one more often comes to.
		{"a:1 a:1 a:1 b:1 a:1 a:1 a:1 b:1", []place.Run{run("a:1 a:1 a:1 b:1", 2)}},
		{"a:1 b:1 a:1 b:1 a:1", []place.Run{run("a:1 b:1", 2), run("a:1", 1)}},
		// From the outermost on: the first a stands alone only because what follows does not stand there twice from it on.
		{"a:1 b:1 c:1 b:1 c:1 a:1", []place.Run{run("a:1", 1), run("b:1 c:1", 2), run("a:1", 1)}},
		// a a is taken at the first place, so a b is never seen twice.
		{"a:1 a:1 b:1 a:1 b:1", []place.Run{run("a:1", 2), run("b:1 a:1 b:1", 1)}},
		// A block of MaxPeriod, and one that is longer.
		{"a:1 b:1 c:1 d:1 e:1 f:1 g:1 h:1 a:1 b:1 c:1 d:1 e:1 f:1 g:1 h:1", []place.Run{run("a:1 b:1 c:1 d:1 e:1 f:1 g:1 h:1", 2)}},
		{"a:1 b:1 c:1 d:1 e:1 f:1 g:1 h:1 i:1 a:1 b:1 c:1 d:1 e:1 f:1 g:1 h:1 i:1", []place.Run{
			run("a:1 b:1 c:1 d:1 e:1 f:1 g:1 h:1 i:1 a:1 b:1 c:1 d:1 e:1 f:1 g:1 h:1 i:1", 1)}},
	} {
		if l, e := place.Fold(stack(x.l)); !sameRuns(l, x.want) || e != api.OK {
			t.Errorf("Fold(%s): %v, %d", x.l, l, e)
		}
	}
	for _, x := range wrong() {
		if l, e := place.Fold(x.l); len(l) != 0 || e != x.e {
			t.Errorf("Fold(%s): %v, %d", show(x.l), l, e)
		}
	}
}

// folded is a stack's runs, by the words of the chapter.
func folded(l []place.Place) []place.Run {
	var runs []place.Run
	for at := 0; at < len(l); {
		p, k := 0, 0
		for length := 8; length >= 1; length-- {
			for times := 2; at+length*times <= len(l); times++ {
				if !slices.Equal(l[at:at+length*times], slices.Repeat(l[at:at+length], times)) {
					break
				}
				if length*times >= p*k {
					p, k = length, times
				}
			}
		}
		last := len(runs) - 1
		switch {
		case p > 0:
			runs = append(runs, place.Run{Places: l[at : at+p], Times: k})
		case last >= 0 && runs[last].Times == 1:
			runs[last].Places = append(slices.Clone(runs[last].Places), l[at])
			p, k = 1, 1
		default:
			p, k = 1, 1
			runs = append(runs, place.Run{Places: l[at : at+1], Times: 1})
		}
		at += p * k
	}
	return runs
}

// P3.5 and P3.8: Fold as the chapter has it; Unfold of it is the stack; it has no more places.
func TestFoldAll(t *testing.T) {
	for _, l := range slices.Concat(edges(), rows(), words("ab", 12), words("abc", 8)) {
		runs, e := place.Fold(l)
		if !sameRuns(runs, folded(l)) || e != api.OK {
			t.Fatalf("Fold(%s): %v, %d", show(l), runs, e)
		}
		n := 0
		for _, r := range runs {
			n += len(r.Places)
		}
		if n > len(l) {
			t.Fatalf("Fold(%s) has %d places", show(l), n)
		}
		if back, e := place.Unfold(runs); !slices.Equal(back, l) || e != api.OK {
			t.Fatalf("Unfold(%v): %v, %d", runs, back, e)
		}
	}
}

// P3.5: runs need not be those of Fold.
func TestUnfold(t *testing.T) {
	for _, x := range []struct {
		l    []place.Run
		want []place.Place
	}{
		{nil, nil},
		{[]place.Run{}, nil},
		{[]place.Run{run("m:1", 1)}, stack("m:1")},
		{[]place.Run{run("m:1", 1), run("f:2", 3), run("g:3", 1)}, stack("m:1 f:2 f:2 f:2 g:3")},
		{[]place.Run{run("m:1", 1), run("m:1", 1), run("m:1", 2)}, stack("m:1 m:1 m:1 m:1")},
		{[]place.Run{run("a:1 b:2", 2), run("a:1 b:2", 1)}, stack("a:1 b:2 a:1 b:2 a:1 b:2")},
		{[]place.Run{run("a:1", 64)}, slices.Repeat(stack("a:1"), 64)},
		{[]place.Run{run("a:1", 63), run("b:1", 1)}, append(slices.Repeat(stack("a:1"), 63), stack("b:1")...)},
		{[]place.Run{{chain(32), 2}}, append(chain(32), chain(32)...)},
		{[]place.Run{{chain(64), 1}}, chain(64)},
	} {
		if l, e := place.Unfold(x.l); !slices.Equal(l, x.want) || e != api.OK {
			t.Errorf("Unfold(%s): %s, %d", show(x.l), show(l), e)
		}
	}
}

// P3.5: what Unfold refuses, in its order: ErrArg of any run, ErrStack, ErrPlace.
func TestUnfoldRefuses(t *testing.T) {
	bad := place.Run{Places: []place.Place{{"a b", 1}}, Times: 1}
	for _, x := range []struct {
		l    []place.Run
		want api.Errno
	}{
		{[]place.Run{run("a:1", 0)}, api.ErrArg},
		{[]place.Run{run("a:1", -1)}, api.ErrArg},
		{[]place.Run{run("a:1", math.MinInt)}, api.ErrArg},
		{[]place.Run{{nil, 1}}, api.ErrArg},
		{[]place.Run{{[]place.Place{}, 1}}, api.ErrArg},
		{[]place.Run{{}}, api.ErrArg},
		{[]place.Run{{nil, math.MaxInt}}, api.ErrArg},
		{[]place.Run{run("a:1", 1), run("a:1", 0)}, api.ErrArg},
		{[]place.Run{run("a:1", 65), {nil, 1}}, api.ErrArg},
		{[]place.Run{bad, run("a:1", 0)}, api.ErrArg},
		{[]place.Run{run("a:1", 65)}, api.ErrStack},
		{[]place.Run{run("a:1", 64), run("a:1", 1)}, api.ErrStack},
		{[]place.Run{run("a:1 b:1", 33)}, api.ErrStack},
		{[]place.Run{run("a:1 b:1", 31), run("a:1 b:1 c:1", 1)}, api.ErrStack},
		{[]place.Run{{chain(65), 1}}, api.ErrStack},
		{[]place.Run{run("a:1", math.MaxInt)}, api.ErrStack},
		{[]place.Run{run("a:1 b:1", math.MaxInt)}, api.ErrStack},
		{[]place.Run{run("a:1 b:1", 1<<62), run("a:1 b:1", 1<<62)}, api.ErrStack},
		{[]place.Run{run("a:1 b:1 c:1 d:1", 1<<62)}, api.ErrStack},
		{[]place.Run{bad, run("a:1", 64)}, api.ErrStack},
		{[]place.Run{{bad.Places, 65}}, api.ErrStack},
		{[]place.Run{bad}, api.ErrPlace},
		{[]place.Run{run("a:1", 63), bad}, api.ErrPlace},
		{[]place.Run{{append(stack("a:1"), bad.Places...), 32}}, api.ErrPlace},
	} {
		if l, e := place.Unfold(x.l); len(l) != 0 || e != x.want {
			t.Errorf("Unfold(%s): %s, %d", show(x.l), show(l), e)
		}
	}
	for _, p := range wrongPlaces() {
		if l, e := place.Unfold([]place.Run{run("a:1", 2), {[]place.Place{p}, 2}}); len(l) != 0 || e != api.ErrPlace {
			t.Errorf("Unfold with %s: %s, %d", show(p), show(l), e)
		}
	}
}

// R3: no two lists of Fold's share memory, their spare room too, with one another or with what was handed in; so of Unfold.
func TestFoldNewMemory(t *testing.T) {
	l := append(make([]place.Place, 0, 64), stack("a:1 b:1 a:1 b:1 c:1 d:1 e:1 f:1 f:1 g:1")...)
	before := slices.Clone(l)
	want := folded(before)
	runs, _ := place.Fold(l)
	for i := range runs {
		spare := runs[i].Places[:cap(runs[i].Places)]
		for j := range spare {
			spare[j] = place.Place{"x", 9}
		}
		for j := range runs {
			if j > i && !slices.Equal(runs[j].Places, want[j].Places) {
				t.Errorf("run %d is changed by way of run %d", j, i)
			}
		}
	}
	if !slices.Equal(l, before) || slices.ContainsFunc(l[:64][len(l):], func(p place.Place) bool { return p != place.Place{} }) {
		t.Error("Fold shares its argument:", l[:64])
	}
	given := []place.Run{{l[:2], 1}, {l[2:4], 2}}
	places, e := place.Unfold(given)
	if e != api.OK {
		t.Fatal(e)
	}
	clear(places[:cap(places)])
	if !slices.Equal(l, before) || !sameRuns(given, []place.Run{{before[:2], 1}, {before[2:4], 2}}) {
		t.Error("Unfold shares its argument:", l)
	}
}
