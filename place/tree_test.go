package place_test

import (
	"fmt"
	"math"
	"slices"
	"strings"
	"testing"

	"errata/api"
	"errata/place"
)

// small is the tree of the chapter's examples.
func small(t *testing.T) *place.Tree {
	t.Helper()
	tree := place.New()
	for _, x := range []struct {
		at   int
		p    string
		want int
	}{{0, "m:1", 1}, {1, "f:2", 2}, {1, "g:3", 3}, {0, "m:1", 1}} {
		if n, e := tree.Push(x.at, stack(x.p)[0]); n != x.want || e != api.OK {
			t.Fatalf("Push(%d, %s): %d, %d", x.at, x.p, n, e)
		}
	}
	return tree
}

// full is a tree with as many nodes as there may be: the stacks of one place.
func full(t *testing.T) *place.Tree {
	t.Helper()
	tree := place.New()
	for n := 1; n < 4096; n++ {
		if at, e := tree.Push(0, place.Place{"f", n}); at != n || e != api.OK {
			t.Fatalf("Push of the place %d: %d, %d", n, at, e)
		}
	}
	return tree
}

// P3.6, P3.7.
func TestTreeExamples(t *testing.T) {
	tree := small(t)
	if n, e := tree.Meet(2, 3); n != 1 || e != api.OK {
		t.Error("Meet:", n, e)
	}
	if l, e := tree.Stack(3); !slices.Equal(l, stack("m:1 g:3")) || e != api.OK {
		t.Error("Stack:", l, e)
	}
	if n, ok := tree.Parent(3); n != 1 || !ok {
		t.Error("Parent:", n, ok)
	}
	if n, ok := tree.Parent(0); n != 0 || ok {
		t.Error("Parent of the root:", n, ok)
	}
	if tree.Depth(3) != 2 || tree.Len() != 4 {
		t.Error("Depth, Len:", tree.Depth(3), tree.Len())
	}
	if s := tree.Told(); s != "\x03\x01\x01m\x01\x01\x01f\x02\x02\x01g\x03" {
		t.Errorf("Told: %x", s)
	}
}

// P3.6: a new tree.
func TestNew(t *testing.T) {
	tree := place.New()
	if l, e := tree.Stack(0); len(l) != 0 || e != api.OK {
		t.Error("Stack:", l, e)
	}
	if n, e := tree.Meet(0, 0); n != 0 || e != api.OK {
		t.Error("Meet:", n, e)
	}
	if n, e := tree.Add(nil); n != 0 || e != api.OK {
		t.Error("Add:", n, e)
	}
	if tree.Len() != 1 || tree.Depth(0) != 0 || tree.Told() != "\x00" {
		t.Errorf("%d, %d, %x", tree.Len(), tree.Depth(0), tree.Told())
	}
	other := place.New()
	other.Push(0, stack("m:1")[0])
	if tree.Len() != 1 || other.Len() != 2 {
		t.Error("two trees are one:", tree.Len(), other.Len())
	}
}

// P3.6: what Push refuses, in its order, and that nothing is made.
func TestPushRefuses(t *testing.T) {
	tree := small(t)
	good := stack("m:1")[0]
	for _, at := range []int{-1, 4, 5, math.MinInt, math.MaxInt} {
		for _, p := range append(wrongPlaces(), good) {
			if n, e := tree.Push(at, p); n != 0 || e != api.ErrArg {
				t.Errorf("Push(%d, %s): %d, %d", at, show(p), n, e)
			}
		}
	}
	for at := range 4 {
		for _, p := range wrongPlaces() {
			if n, e := tree.Push(at, p); n != 0 || e != api.ErrPlace {
				t.Errorf("Push(%d, %s): %d, %d", at, show(p), n, e)
			}
		}
	}
	same(t, tree, small(t))
}

// P3.6: a stack with MaxPlaces places has none behind it; a place that may not be is told ahead of that.
func TestPushDeep(t *testing.T) {
	tree := place.New()
	at := 0
	for i := range 64 {
		n, e := tree.Push(at, place.Place{"f", i})
		if n != at+1 || e != api.OK {
			t.Fatalf("place %d: %d, %d", i, n, e)
		}
		at = n
	}
	if n, e := tree.Push(at, place.Place{"f", 1}); n != 0 || e != api.ErrStack {
		t.Error(n, e)
	}
	if n, e := tree.Push(at, place.Place{"", 1}); n != 0 || e != api.ErrPlace {
		t.Error(n, e)
	}
	if n, e := tree.Push(at-1, place.Place{"g", 1}); n != 65 || e != api.OK {
		t.Error(n, e)
	}
	if tree.Len() != 66 || tree.Depth(64) != 64 || tree.Depth(65) != 64 || tree.Depth(1) != 1 {
		t.Error(tree.Len(), tree.Depth(64), tree.Depth(65))
	}
}

// P3.6: a full tree finds what it has, and makes nothing.
func TestPushFull(t *testing.T) {
	tree := full(t)
	told := tree.Told()
	if n, e := tree.Push(0, place.Place{"f", 4096}); n != 0 || e != api.ErrFull {
		t.Error(n, e)
	}
	if n, e := tree.Push(1, place.Place{"f", 1}); n != 0 || e != api.ErrFull {
		t.Error(n, e)
	}
	if n, e := tree.Push(0, place.Place{"f", 4095}); n != 4095 || e != api.OK {
		t.Error(n, e)
	}
	if n, e := tree.Push(4096, place.Place{"f", 1}); n != 0 || e != api.ErrArg {
		t.Error(n, e)
	}
	if n, e := tree.Push(0, place.Place{"", 1}); n != 0 || e != api.ErrPlace {
		t.Error(n, e)
	}
	if n, e := tree.Add(stack("f:7")); n != 7 || e != api.OK {
		t.Error(n, e)
	}
	if n, e := tree.Add(stack("f:7 f:7")); n != 0 || e != api.ErrFull {
		t.Error(n, e)
	}
	if n, e := tree.Add([]place.Place{{"f", 5000}, {"", 1}}); n != 0 || e != api.ErrPlace {
		t.Error(n, e)
	}
	if tree.Len() != 4096 || tree.Told() != told {
		t.Error(tree.Len())
	}
}

// P3.6: a stack that is too deep is told as such in a full tree, too.
func TestPushDeepAndFull(t *testing.T) {
	tree := place.New()
	deep, e := tree.Add(chain(64))
	if deep != 64 || e != api.OK {
		t.Fatal(deep, e)
	}
	for n := tree.Len(); n < 4096; n++ {
		tree.Push(0, place.Place{"g", n})
	}
	if n, e := tree.Push(deep, place.Place{"f", 1}); n != 0 || e != api.ErrStack {
		t.Error(n, e)
	}
	if n, e := tree.Push(deep-1, place.Place{"g", 1}); n != 0 || e != api.ErrFull {
		t.Error(n, e)
	}
}

// P3.6: what Add made on the way stays where there is no room for the rest.
func TestAddHalf(t *testing.T) {
	tree := place.New()
	for n := 1; n <= 4093; n++ {
		tree.Push(0, place.Place{"f", n})
	}
	if n, e := tree.Add(stack("f:4093 a:1 b:2 c:3 d:4")); n != 0 || e != api.ErrFull {
		t.Fatal(n, e)
	}
	if tree.Len() != 4096 {
		t.Fatal(tree.Len())
	}
	if l := mustStack(t, tree, 4095); !slices.Equal(l, stack("f:4093 a:1 b:2")) {
		t.Error(l)
	}
	if n, e := tree.Add(stack("f:4093 a:1 b:2")); n != 4095 || e != api.OK {
		t.Error(n, e)
	}
}

// P3.6: Add refuses what is no stack, and makes nothing.
func TestAddRefuses(t *testing.T) {
	tree := small(t)
	for _, x := range wrong() {
		if n, e := tree.Add(x.l); n != 0 || e != x.e {
			t.Errorf("Add(%s): %d, %d", show(x.l), n, e)
		}
	}
	same(t, tree, small(t))
}

// P3.6, P3.7, P3.8: trees of many stacks, held against a list of them all.
func TestTreeAll(t *testing.T) {
	for _, set := range [][][]place.Place{edges(), words("ab", 6), words("abc", 4), rows()[:80], {stack("a:1 b:2"), stack("b:2 a:1"), stack("b:2"), stack("a:2")}} {
		tree := place.New()
		var all [][]place.Place // by the nodes' numbers
		all = append(all, nil)
		numbers := map[string]int{}
		for _, l := range set {
			for i := range l {
				key := fmt.Sprint(l[:i+1])
				if _, ok := numbers[key]; !ok {
					numbers[key] = len(all)
					all = append(all, l[:i+1])
				}
			}
			n, e := tree.Add(l)
			again, _ := tree.Add(slices.Clone(l))
			if e != api.OK || n != again || !slices.Equal(mustStack(t, tree, n), l) {
				t.Fatalf("Add(%s): %d, %d, %d", show(l), n, again, e)
			}
		}
		if tree.Len() != len(all) {
			t.Fatalf("%d nodes of %d", tree.Len(), len(all))
		}
		holdAgainst(t, tree, all)
	}
}

// holdAgainst holds what a tree tells against the stacks of its nodes.
func holdAgainst(t *testing.T, tree *place.Tree, all [][]place.Place) {
	t.Helper()
	told := short(len(all) - 1)
	for n, l := range all {
		if got := mustStack(t, tree, n); !slices.Equal(got, l) || tree.Depth(n) != len(l) {
			t.Fatalf("node %d: %s, %d; %s", n, show(got), tree.Depth(n), show(l))
		}
		parent, ok := tree.Parent(n)
		if n == 0 {
			if parent != 0 || ok {
				t.Fatal("the root's parent:", parent, ok)
			}
			continue
		}
		if !ok || parent >= n || parent < 0 || !slices.Equal(all[parent], l[:len(l)-1]) {
			t.Fatalf("Parent(%d): %d, %v", n, parent, ok)
		}
		if again, e := tree.Push(parent, l[len(l)-1]); again != n || e != api.OK {
			t.Fatalf("Push(%d, %v): %d, %d", parent, l[len(l)-1], again, e)
		}
		told += row(n-parent, l[len(l)-1])
	}
	if tree.Told() != told {
		t.Fatalf("Told: %.200x; %.200x", tree.Told(), told)
	}
	back, e := place.From(told)
	if e != api.OK {
		t.Fatal("From:", e)
	}
	same(t, back, tree)
	for a := range all {
		for b := range min(len(all), 200) {
			n, e := tree.Meet(a, b)
			if k := place.Common(all[a], all[b]); e != api.OK || !slices.Equal(all[n], all[a][:k]) {
				t.Fatalf("Meet(%d, %d): %d, %d", a, b, n, e)
			}
			if other, _ := tree.Meet(b, a); other != n {
				t.Fatalf("Meet(%d, %d): %d, but %d", b, a, other, n)
			}
		}
	}
}

// P3.7: of no node.
func TestNoNode(t *testing.T) {
	tree := small(t)
	for _, n := range []int{-1, 4, 5, 1 << 40, math.MinInt, math.MaxInt} {
		if p, ok := tree.Parent(n); p != 0 || ok {
			t.Errorf("Parent(%d): %d, %v", n, p, ok)
		}
		if d := tree.Depth(n); d != 0 {
			t.Errorf("Depth(%d): %d", n, d)
		}
		if l, e := tree.Stack(n); len(l) != 0 || e != api.ErrArg {
			t.Errorf("Stack(%d): %v, %d", n, l, e)
		}
		for _, two := range [][2]int{{n, 1}, {1, n}, {n, n}} {
			if m, e := tree.Meet(two[0], two[1]); m != 0 || e != api.ErrArg {
				t.Errorf("Meet%v: %d, %d", two, m, e)
			}
		}
	}
}

// P3.7: the node that two have alike may be one of them.
func TestMeet(t *testing.T) {
	tree := place.New()
	deep, _ := tree.Add(stack("m:1 f:2 g:3"))
	beside, _ := tree.Add(stack("m:1 h:2 g:3"))
	apart, _ := tree.Add(stack("n:1 f:2 g:3"))
	for _, x := range []struct{ a, b, want int }{
		{deep, deep, deep}, {deep, 2, 2}, {2, deep, 2}, {deep, 1, 1}, {deep, 0, 0}, {0, deep, 0}, {0, 0, 0},
		{deep, beside, 1}, {beside, deep, 1}, {2, beside, 1}, {deep, apart, 0}, {1, apart, 0},
	} {
		if n, e := tree.Meet(x.a, x.b); n != x.want || e != api.OK {
			t.Errorf("Meet(%d, %d): %d, %d", x.a, x.b, n, e)
		}
	}
}

// R1, R5: a nil tree, whatever it is handed beside.
func TestNilTree(t *testing.T) {
	var tree *place.Tree
	for _, n := range []int{-1, 0, 1} {
		for _, p := range []place.Place{{}, {"m", 1}} {
			if at, e := tree.Push(n, p); at != 0 || e != api.ErrNil {
				t.Errorf("Push(%d, %v): %d, %d", n, p, at, e)
			}
		}
		if p, ok := tree.Parent(n); p != 0 || ok {
			t.Error("Parent:", p, ok)
		}
		if tree.Depth(n) != 0 {
			t.Error("Depth:", tree.Depth(n))
		}
		if l, e := tree.Stack(n); len(l) != 0 || e != api.ErrNil {
			t.Error("Stack:", l, e)
		}
		if m, e := tree.Meet(n, 0); m != 0 || e != api.ErrNil {
			t.Error("Meet:", m, e)
		}
	}
	for _, l := range [][]place.Place{nil, stack("m:1"), chain(65), make([]place.Place, 1)} {
		if n, e := tree.Add(l); n != 0 || e != api.ErrNil {
			t.Error("Add:", n, e)
		}
	}
	if tree.Len() != 0 || tree.Told() != "" {
		t.Error(tree.Len(), tree.Told())
	}
}

// R1: a bare struct answers what it will, but does not panic.
func TestBareTree(t *testing.T) {
	tree := &place.Tree{}
	for n := -1; n < 2; n++ {
		tree.Push(n, place.Place{"m", 1})
		tree.Parent(n)
		tree.Depth(n)
		tree.Stack(n)
		tree.Meet(n, n)
	}
	tree.Add(nil)
	tree.Add(stack("m:1 f:2"))
	tree.Len()
	tree.Told()
}

// R3: a tree keeps no list that was handed in, and hands out none of its own.
func TestTreeNewMemory(t *testing.T) {
	tree := place.New()
	l := append(make([]place.Place, 0, 8), stack("m:1 f:2")...)
	n, _ := tree.Add(l)
	l[0], l[1] = place.Place{"x", 9}, place.Place{"y", 9}
	got := mustStack(t, tree, n)
	if !slices.Equal(got, stack("m:1 f:2")) {
		t.Error("the list is kept:", got)
	}
	clear(got[:cap(got)])
	if got := mustStack(t, tree, n); !slices.Equal(got, stack("m:1 f:2")) {
		t.Error("the tree's own list is handed out:", got)
	}
	if l[0] != (place.Place{"x", 9}) || l[:8][2] != (place.Place{}) {
		t.Error("the argument is changed:", l[:8])
	}
}

// P3.7: From, ordinary trees and the greatest one.
func TestFrom(t *testing.T) {
	for _, x := range []struct {
		s   string
		all [][]place.Place
	}{
		{"\x00", [][]place.Place{nil}},
		{"\x01\x01\x01m\x01", [][]place.Place{nil, stack("m:1")}},
		{"\x01\x01\x01m\x00", [][]place.Place{nil, stack("m:0")}},
		{"\x03\x01\x01m\x01\x01\x01f\x02\x02\x01g\x03", [][]place.Place{nil, stack("m:1"), stack("m:1 f:2"), stack("m:1 g:3")}},
		{"\x02\x01\x01m\x01\x01\x01m\x01", [][]place.Place{nil, stack("m:1"), stack("m:1 m:1")}},
		{"\x02\x01\x01m\x01\x02\x01m\x02", [][]place.Place{nil, stack("m:1"), stack("m:2")}},
		{"\x01\x01\x01m\x7f", [][]place.Place{nil, stack("m:127")}},
		{"\x01\x01\x01m\x80\x01", [][]place.Place{nil, stack("m:128")}},
		{"\x01\x01\x01m\xff\x7f", [][]place.Place{nil, stack("m:16383")}},
		{"\x01\x01\x01m\x80\x80\x01", [][]place.Place{nil, stack("m:16384")}},
		{"\x01\x01\x01m\x80\x80\x40", [][]place.Place{nil, stack("m:1048576")}},
		{"\x01\x01\x78" + strings.Repeat("n", 120) + "\x01", [][]place.Place{nil, {{strings.Repeat("n", 120), 1}}}},
	} {
		tree, e := place.From(x.s)
		if e != api.OK {
			t.Errorf("From(%x): %d", x.s, e)
			continue
		}
		holdAgainst(t, tree, x.all)
	}
	all := full(t)
	tree, e := place.From(all.Told())
	if e != api.OK {
		t.Fatal(e)
	}
	same(t, tree, all)
	if n, e := tree.Push(0, place.Place{"g", 1}); n != 0 || e != api.ErrFull {
		t.Error(n, e)
	}
}

// P3.7, P3.8: a tree that was read goes on as the one that was told does.
func TestFromGoesOn(t *testing.T) {
	tree := small(t)
	back, e := place.From(tree.Told())
	if e != api.OK {
		t.Fatal(e)
	}
	for _, l := range []string{"m:1 f:2", "m:1 h:4 i:5", "n:1", "m:1 g:3 f:2"} {
		a, ea := tree.Add(stack(l))
		b, eb := back.Add(stack(l))
		if a != b || ea != api.OK || eb != api.OK {
			t.Errorf("%s: %d, %d; %d, %d", l, a, b, ea, eb)
		}
	}
	same(t, back, tree)
}

// P3.7: bytes of no tree.
func TestFromRefuses(t *testing.T) {
	one := "\x01\x01\x01m\x01"
	deep := "\x41" // 65 places within one another
	for range 65 {
		deep += row(1, place.Place{"m", 1})
	}
	many := short(4096)
	for n := range 4096 {
		many += row(n+1, place.Place{"m", n})
	}
	for _, s := range []string{
		"", "\x01\x02\x01m\x01", "\x02\x01\x01m\x01\x02\x01m\x01",
		// Counts that are not so.
		"\x00\x00", one + "\x00", one + one, "\x02" + one[1:], "\x00" + one[1:], "\x80\x20" + one[1:], "\xff\xff\xff\xff\xff\xff\xff\xff\xff\x01" + one[1:],
		// Parents that are not there.
		"\x01\x00\x01m\x01", "\x02\x01\x01m\x01\x00\x01m\x01", "\x02\x01\x01m\x01\x03\x01m\x01", "\x01\x80\x01\x01m\x01", "\x01\xff\xff\x7f\x01m\x01",
		// One stack twice, with the count that is so without it, too.
		"\x01\x01\x01m\x01\x02\x01m\x01", "\x03\x01\x01m\x01\x01\x01f\x02\x02\x01f\x02",
		// Places that may not be.
		"\x01\x01\x00\x01", "\x01\x01\x01 \x01", "\x01\x01\x01:\x01", "\x01\x01\x01\x7f\x01", "\x01\x01\x01\xff\x01", "\x01\x01\x02\xc3\xa9\x01",
		"\x01\x01\x01m\x81\x80\x40", "\x01\x01\x01m\xff\xff\x7f", "\x01\x01\x01m\x80\x80\x80\x01", "\x01\x01\x01m\xff\xff\xff\xff\xff\xff\xff\xff\xff\x01",
		"\x01\x01\x79" + strings.Repeat("n", 121) + "\x01", "\x01\x01\x80\x08" + strings.Repeat("n", 1024) + "\x01",
		// Names of which there is less.
		"\x01\x01\x02m\x01", "\x01\x01\x7fm\x01", "\x01\x01\xff\xff\x7fm\x01", "\x01\x01\x80\x80\x80\x80\x80\x80\x80\x80\x80\x01m\x01",
		// Short numbers that are not as few bytes as there can be.
		"\x80\x00", "\x81\x00" + one[1:], "\x01\x81\x00\x01m\x01", "\x01\x01\x81\x00m\x01", "\x01\x01\x01m\x81\x00", "\x01\x01\x01m\x80\x00",
		"\x01\x01\x01m\x81\x80\x00", "\x01\x01\x01m\x81\x80\x80\x00", "\x01\x01\x01m\x80\x81\x00",
		// Numbers without an end.
		"\x80", "\xff\xff\xff", "\x01\x01\x01m\x80", strings.Repeat("\x80", 100), strings.Repeat("\xff", 100),
		deep, many,
	} {
		if tree, e := place.From(s); tree != nil || e != api.ErrForm {
			t.Errorf("From(%.60x): %v, %d", s, tree != nil, e)
		}
	}
}

// P3.7: whatever bytes are near a tree's, there is a tree just if it tells them; and what is cut off is none.
func TestFromNear(t *testing.T) {
	tree := small(t)
	tree.Add(stack("m:1 g:3 long.name:1000 x:1"))
	s := tree.Told()
	took := 0
	for at := range len(s) {
		if cut, e := place.From(s[:at]); cut != nil || e != api.ErrForm {
			t.Errorf("From(%x): %d", s[:at], e)
		}
		for c := range 256 {
			for _, near := range []string{s[:at] + string([]byte{byte(c)}) + s[at+1:], s[:at] + string([]byte{byte(c)}) + s[at:]} {
				tree, e := place.From(near)
				if e == api.OK && tree.Told() == near {
					took++
					continue
				}
				if e != api.ErrForm || tree != nil {
					t.Fatalf("From(%x): %d", near, e)
				}
			}
		}
	}
	if took < 100 {
		t.Error("hardly any is a tree:", took)
	}
}
