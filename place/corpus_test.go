package place_test

import (
	"fmt"
	"slices"
	"strconv"
	"strings"
	"testing"

	"errata/api"
	"errata/place"
)

// What the tests are put together of.

// stack is places, written as the chapter's examples are: name:line, a blank between two.
func stack(s string) []place.Place {
	var l []place.Place
	for _, w := range strings.Fields(s) {
		at := strings.LastIndexByte(w, ':')
		line, err := strconv.Atoi(w[at+1:])
		if err != nil {
			panic(err)
		}
		l = append(l, place.Place{Name: w[:at], Line: line})
	}
	return l
}

// chain is n places, no two alike.
func chain(n int) []place.Place {
	var l []place.Place
	for i := range n {
		l = append(l, place.Place{Name: "f" + strconv.Itoa(i), Line: i})
	}
	return l
}

// words is all stacks of letters up to a length, the letters being places' names.
func words(letters string, longest int) [][]place.Place {
	all := [][]place.Place{nil}
	from := 0
	for range longest {
		end := len(all)
		for _, l := range all[from:end] {
			for _, c := range letters {
				all = append(all, append(slices.Clone(l), place.Place{Name: string(c), Line: 1}))
			}
		}
		from = end
	}
	return all
}

// draws is numbers that look like drawn ones, below a bound, the same ones each time.
func draws(seed uint32) func(below int) int {
	return func(below int) int {
		seed = seed*1664525 + 1013904223
		return int(seed>>8) % below
	}
}

// rows is long stacks in which blocks stand again and again, of lengths around MaxPeriod, within one another, too.
func rows() [][]place.Place {
	var all [][]place.Place
	for seed := range uint32(3000) {
		draw := draws(seed)
		var l []place.Place
		letters := "abcdefghij"[:1+draw(10)]
		for len(l) < 50 {
			var block []place.Place
			for range 1 + draw(10) {
				block = append(block, place.Place{Name: string(letters[draw(len(letters))]), Line: draw(2)})
			}
			for range 1 + draw(5) {
				l = append(l, block...)
			}
		}
		all = append(all, l[:min(len(l), 1+draw(64))])
	}
	return all
}

// edges is stacks at the bounds, and some with names that look like something else.
func edges() [][]place.Place {
	return [][]place.Place{
		nil,
		{},
		stack("m:1"),
		stack("m:0 m:1048576 m:0"),
		stack("<:1 <<:2 !~:3 \"\\:4 0:5 -1:6"),
		{{strings.Repeat("n", 120), 7}},
		chain(63),
		chain(64),
		slices.Repeat([]place.Place{{strings.Repeat("~", 120), 1 << 20}}, 64),
	}
}

// wrong is lists that are no stacks, with what is wrong with them.
func wrong() []struct {
	l []place.Place
	e api.Errno
} {
	type row = struct {
		l []place.Place
		e api.Errno
	}
	all := []row{
		{chain(65), api.ErrStack},
		{chain(1000), api.ErrStack},
		{make([]place.Place, 1), api.ErrPlace},
		{make([]place.Place, 65), api.ErrPlace},
	}
	for _, p := range wrongPlaces() {
		all = append(all,
			row{[]place.Place{p}, api.ErrPlace},
			row{append(stack("m:1"), p), api.ErrPlace},
			row{append([]place.Place{p}, stack("m:1 f:2")...), api.ErrPlace},
			row{append(chain(64), p), api.ErrPlace},
			row{append(append(chain(30), p), chain(80)...), api.ErrPlace},
		)
	}
	return all
}

// wrongPlaces is places that may not be.
func wrongPlaces() []place.Place {
	l := []place.Place{
		{}, {"", 1}, {strings.Repeat("n", 121), 1}, {strings.Repeat("n", 1<<16), 1},
		{"a", -1}, {"a", 1<<20 + 1}, {"a", -1 << 62}, {"a", 1<<62 + 1}, {"a", 1 << 32},
		{"a b", 1}, {" a", 1}, {"a ", 1}, {"a:b", 1}, {":", 1}, {"a\x7f", 1}, {"\x00", 1}, {"a\n", 1},
		{"\xc3\xa9", 1}, {"a\xff", 1}, {"\xef\xbf\xbd", 1}, {"\x80", 1},
	}
	return l
}

// mustStack is a node's places, of a node that there is.
func mustStack(t *testing.T, tree *place.Tree, n int) []place.Place {
	t.Helper()
	l, e := tree.Stack(n)
	if e != api.OK {
		t.Fatalf("Stack(%d): %d", n, e)
	}
	return l
}

// same holds trees against each other: all that they tell of all nodes, and of none.
func same(t *testing.T, a, b *place.Tree) {
	t.Helper()
	if a.Len() != b.Len() || a.Told() != b.Told() {
		t.Fatalf("%d and %d nodes: %x, %x", a.Len(), b.Len(), a.Told(), b.Told())
	}
	for n := -1; n <= a.Len(); n++ {
		la, ea := a.Stack(n)
		lb, eb := b.Stack(n)
		pa, oka := a.Parent(n)
		pb, okb := b.Parent(n)
		if !slices.Equal(la, lb) || ea != eb || pa != pb || oka != okb || a.Depth(n) != b.Depth(n) {
			t.Fatalf("node %d: %v, %d, %d, %v and %v, %d, %d, %v", n, la, ea, pa, oka, lb, eb, pb, okb)
		}
	}
}

// short is a short number, by the words of the chapter.
func short(n int) string {
	if n < 128 {
		return string([]byte{byte(n)})
	}
	return string([]byte{byte(128 + n%128)}) + short(n/128)
}

// row is the bytes of a node.
func row(less int, p place.Place) string {
	return short(less) + short(len(p.Name)) + p.Name + short(p.Line)
}

// show is a list in short, for what the tests print.
func show(l any) string { return fmt.Sprintf("%.300v", l) }
