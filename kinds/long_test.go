package kinds_test

import (
	"slices"
	"strings"
	"testing"

	"errata/api"
	"errata/kinds"
)

// lengths is how many bytes the parts tell; 0 where they panic.
func lengths(parts []error) []int {
	var l []int
	for _, p := range parts {
		n := 0
		if p != nil {
			if text, sort := tells(p); sort == 0 {
				n = len(text)
			}
		}
		l = append(l, n)
	}
	return l
}

// P4.9: of what tells a text it is the text's length; of a leaf that panics it is 0.
func TestLong(t *testing.T) {
	for _, x := range samples() {
		n := kinds.Long(about(x.s, x.parts...), lengths(x.parts))
		if x.sort == 0 && n != len(x.text) || x.sort != 0 && len(x.parts) == 0 && n != 0 {
			t.Errorf("Long(%+v): %d of %q", x.s, n, x.text)
		}
	}
}

// P4.9: of the parts' lengths, whatever they are.
func TestLongOfParts(t *testing.T) {
	const most = api.MaxText + 1
	for _, x := range []struct {
		s     api.Spec
		parts []int
		want  int
	}{
		{api.Spec{Kind: 14, Text: "ab", Parts: []int{3}}, []int{10}, 14},
		{api.Spec{Kind: 7, Text: "ab", Flag: true}, nil, 0},
		{api.Spec{Kind: 24, Text: "ab", Flag: true}, nil, 0},
		{api.Spec{Kind: 16, Parts: []int{1, 0, 2}}, []int{3, 9, 4}, 8},
		{api.Spec{Kind: 16, Parts: []int{0, 0, 2}}, []int{3, 9, 4}, 4},
		{api.Spec{Kind: 16, Parts: []int{0, 0}}, []int{3, 9, 4}, 0},
		{api.Spec{Kind: 16}, []int{3}, 0},
		{api.Spec{Kind: 16, Parts: []int{-1, -1, -1}}, []int{0, 0, 0}, 2},
		{api.Spec{Kind: 16, Parts: []int{1, 2}}, nil, 1},
		{api.Spec{Kind: 16, Parts: []int{1, 2}}, []int{5}, 6},
		{api.Spec{Kind: 16, Parts: slices.Repeat([]int{1}, 64)}, slices.Repeat([]int{1 << 62}, 64), 64*most + 63},
		{api.Spec{Kind: 14, Text: "ab", Parts: []int{-7}}, []int{10}, 14},
		{api.Spec{Kind: 14, Text: "ab", Parts: []int{0}}, []int{10}, 2},
		{api.Spec{Kind: 14, Text: "ab"}, []int{10}, 2},
		{api.Spec{Kind: 14, Text: "ab", Parts: []int{1}}, nil, 4},
		{api.Spec{Kind: 14, Text: "ab", Parts: []int{1}}, []int{-1}, 4},
		{api.Spec{Kind: 14, Parts: []int{1}}, []int{-1 << 63}, 2},
		{api.Spec{Kind: 14, Parts: []int{1}}, []int{api.MaxText}, api.MaxText + 2},
		{api.Spec{Kind: 14, Parts: []int{1}}, []int{most}, most + 2},
		{api.Spec{Kind: 14, Parts: []int{1}}, []int{most + 1}, most + 2},
		{api.Spec{Kind: 14, Parts: []int{1}}, []int{1<<63 - 1}, most + 2},
		{api.Spec{Kind: 15, Text: "o", Parts: []int{1}}, []int{5}, 8},
		{api.Spec{Kind: 15, Text: "o", Parts: []int{0}}, []int{5}, 1},
		{api.Spec{Kind: 20, Parts: []int{1}}, []int{5}, 11},
		{api.Spec{Kind: 20, Parts: []int{0}}, []int{5}, 4},
		{api.Spec{Kind: 13, Text: "h", Parts: []int{1}}, []int{5}, 1},
		{api.Spec{Kind: 26, Text: "o", Items: []string{"name"}, Parts: []int{1, 1}}, []int{5, 5}, 1},
		{api.Spec{Kind: 25, Text: "f", Parts: []int{1}}, []int{5}, 7},
		{api.Spec{Kind: 17, Parts: []int{1}}, []int{5}, 5},
		{api.Spec{Kind: 17, Flag: true, Parts: []int{-2}}, []int{1 << 40}, most},
		{api.Spec{Kind: 17, Parts: []int{0}}, []int{5}, 0},
		{api.Spec{Kind: 17}, []int{5}, 0},
		{api.Spec{Kind: 18, Parts: []int{1}}, []int{5}, 5},
		{api.Spec{Kind: 18, Number: 7, Parts: []int{0}}, []int{5}, 0},
		{api.Spec{Kind: 18}, []int{5}, 0},
		{api.Spec{Kind: 2, Text: "abc"}, []int{5}, 3},
	} {
		if n := kinds.Long(x.s, x.parts); n != x.want {
			t.Errorf("Long(%+v, %d): %d", x.s, x.parts, n)
		}
	}
}

// P4.9: of what Check refuses: 0.
func TestLongRefuses(t *testing.T) {
	for _, s := range []api.Spec{
		{}, {Kind: 27, Text: "x"}, {Kind: 1, Text: "x"}, {Kind: 5, Text: "abc"}, {Kind: 9, Nil: true, Text: "x"}, {Kind: 23, Number: 4},
		{Kind: 10, Nil: true, Parts: []int{1}}, {Kind: 2, Text: "x", Parts: []int{0}}, {Kind: 14, Text: "w", Parts: []int{1, 2}}, {Kind: 26, Text: "o"},
		{Kind: 16, Parts: make([]int, 65)}, {Kind: 2, Text: strings.Repeat("a", api.MaxWord+1)}, {Kind: 3, Im: minus0},
	} {
		if n := kinds.Long(s, []int{5, 5}); n != 0 {
			t.Errorf("Long(%+v): %d", s, n)
		}
	}
}

// P4.9: of trees, made from the leaves up as a book does it, the reckoned length is the text's.
func TestLongOfTrees(t *testing.T) {
	var made []error
	var long []int
	for _, x := range leaves() {
		made, long = append(made, build(t, x.s)), append(long, kinds.Long(x.s, nil))
	}
	for round := range 200 {
		for _, kind := range []uint8{13, 14, 15, 16, 17, 20, 26} {
			s := basis(int(kind))
			if strings.Contains(rows[kind], "Text") {
				s.Text = strings.Repeat("t", round%5)
			}
			var parts []error
			var of []int
			n := 1
			if most(int(kind)) > 1 {
				n = round % 4
			}
			for i := range n {
				at := (round*31 + i*17 + int(kind)*7) % len(made)
				parts, of = append(parts, made[at]), append(of, long[at])
			}
			e := build(t, s, parts...)
			n = kinds.Long(about(s, parts...), of)
			if text, sort := tells(e); sort == 0 && n != len(text) {
				t.Fatalf("Long(%+v): %d of %q", s, n, text)
			}
			if n <= api.MaxText {
				made, long = append(made, e), append(long, n)
			}
		}
	}
}
