package compare_test

import (
	"math"
	"slices"
	"testing"

	"errata/api"
	"errata/book"
	"errata/compare"
	"errata/faces"
)

// The chapter's examples of Two, Four and Rows.
func TestExamplesOfComparing(t *testing.T) {
	b := fourteen(t)
	for _, c := range []struct{ x, y, want int }{
		{1, 2, api.Same}, {3, 3, api.Unlike}, {4, 4, api.Panics}, {4, 1, api.Unlike}, {11, 12, api.Same},
		{5, 6, api.Unlike}, {5, 5, api.Panics}, {7, 8, api.Unlike}, {7, 7, api.Same}, {0, 9, api.Unlike}, {0, 0, api.Same},
		{13, 14, api.Panics}, {10, 10, api.Panics},
	} {
		if got := two(t, b, c.x, c.y); got != c.want {
			t.Errorf("Two(%d, %d): %d; want %d", c.x, c.y, got, c.want)
		}
	}
	for _, c := range []struct {
		x, y [4]int
		want int
	}{
		{[4]int{1, 4, 4, 4}, [4]int{3, 4, 4, 4}, api.Unlike},
		{[4]int{1, 4, 0, 0}, [4]int{2, 4, 0, 0}, api.Panics},
	} {
		if got, e := compare.Four(b, c.x, c.y); got != c.want || e != api.OK {
			t.Errorf("Four(%v, %v): %d, %d; want %d", c.x, c.y, got, e, c.want)
		}
	}
	if got, e := compare.Rows(b, []int{1}, []int{1, 2}); got != api.Unlike || e != api.OK {
		t.Errorf("Rows(1, 1 2): %d, %d", got, e)
	}
}

// The chapter's examples of Seek, ByType, Nothing, Classes and of what is wrong.
func TestExamplesOfAsking(t *testing.T) {
	b := fourteen(t)
	for _, c := range []struct {
		x           int
		row         []int
		at, outcome int
	}{{1, []int{3, 7, 2, 4}, 2, api.Same}, {4, []int{1, 4}, 1, api.Panics}, {3, []int{3}, -1, api.Unlike}} {
		if at, outcome, e := compare.Seek(b, c.x, c.row); at != c.at || outcome != c.outcome || e != api.OK {
			t.Errorf("Seek(%d, %v): %d, %d, %d", c.x, c.row, at, outcome, e)
		}
	}
	for h, want := range map[int]bool{4: false, 5: true} {
		if got, e := compare.ByType(b, h); got != want || e != api.OK {
			t.Errorf("ByType(%d): %t, %d", h, got, e)
		}
	}
	for h, want := range map[int][2]bool{9: {false, true}, 0: {true, false}} {
		if none, typed, e := compare.Nothing(b, h); none != want[0] || typed != want[1] || e != api.OK {
			t.Errorf("Nothing(%d): %t, %t, %d", h, none, typed, e)
		}
	}
	same, out, e := compare.Classes(b, []int{2, 4, 7, 1, 3, 0, 5, 7})
	if !equal(same, [][]int{{2, 1}, {7, 7}, {0}}) || !slices.Equal(out, []int{4, 3, 5}) || e != api.OK {
		t.Errorf("Classes: %v, %v, %d", same, out, e)
	}
	o, e := compare.Two(b, 99, 0)
	wrong(t, "Two(99, 0)", api.ErrHandle, e, o)
	s, e := compare.New(nil)
	wrong(t, "New(nil)", api.ErrNil, e, s)
}

// equal is whether two lists of lists are.
func equal(x, y [][]int) bool { return slices.EqualFunc(x, y, slices.Equal) }

// byLanguage is what == of the values that the book hands out comes to.
func byLanguage(t testing.TB, b *book.Book, x, y int) (outcome int) {
	t.Helper()
	v, e := b.Error(x)
	w, g := b.Error(y)
	if e != api.OK || g != api.OK {
		t.Fatalf("Error(%d), Error(%d): %d, %d", x, y, e, g)
	}
	defer func() {
		if recover() != nil {
			outcome = api.Panics
		}
	}()
	return sameIf(v == w)
}

// P7.1, P7.6: of all pairs, as the chapter's Words say, and as the language does.
func TestTwo(t *testing.T) {
	b := all(t)
	hs := some(b)
	for _, x := range hs {
		for _, y := range hs {
			got := two(t, b, x, y)
			if want := told(b, x, y); got != want {
				t.Errorf("Two(%d, %d): %d; want %d of %+v and %+v", x, y, got, want, specOf(b, x), specOf(b, y))
			}
			if want := byLanguage(t, b, x, y); got != want {
				t.Errorf("Two(%d, %d): %d; == comes to %d", x, y, got, want)
			}
		}
	}
}

// P7.1: field by field, in order, up to the first that is not Same.
func TestFieldByField(t *testing.T) {
	b := book.New()
	bag := put(t, b, api.Spec{Kind: api.KindBag})
	plain, other := put(t, b, api.Spec{Kind: api.KindPlain}), put(t, b, api.Spec{Kind: api.KindPlain})
	none := put(t, b, api.Spec{Kind: api.KindPlain, Nil: true})
	note, noted := put(t, b, api.Spec{Kind: api.KindNote, Text: "a"}), put(t, b, api.Spec{Kind: api.KindNote, Text: "b"})
	about := func(s api.Spec, part ...int) int {
		s.Parts = part
		return put(t, b, s)
	}
	over, timed := api.Spec{Kind: api.KindOver, Text: "o"}, api.Spec{Kind: api.KindTimed, Flag: true}
	for i, c := range []struct{ x, y, want int }{
		{about(over, bag), about(api.Spec{Kind: api.KindOver}, bag), api.Unlike}, // the texts first
		{about(over, bag), about(over, bag), api.Panics},
		{about(over, bag), about(over, note), api.Unlike},
		{about(over), about(over, 0), api.Same},
		{about(over), about(over, note), api.Unlike},
		{about(timed, bag), about(api.Spec{Kind: api.KindTimed}, bag), api.Panics}, // the error first
		{about(timed, note), about(api.Spec{Kind: api.KindTimed}, note), api.Unlike},
		{about(timed, note), about(timed, note), api.Same},
		{about(timed, about(over, note)), about(timed, about(over, note)), api.Same},
		{about(timed, about(over, note)), about(timed, about(over, noted)), api.Unlike},
		{about(timed, about(over, bag)), about(api.Spec{Kind: api.KindTimed}, about(over, bag)), api.Panics},
		{about(api.Spec{Kind: api.KindVeil}, bag), about(api.Spec{Kind: api.KindVeil}, bag), api.Panics},
		{about(api.Spec{Kind: api.KindVeil}), about(api.Spec{Kind: api.KindHold}), api.Unlike},
		{about(api.Spec{Kind: api.KindWrap}, bag), about(api.Spec{Kind: api.KindWrap}, bag), api.Unlike}, // by its pointer
		{about(api.Spec{Kind: api.KindPlaced}, plain), about(api.Spec{Kind: api.KindPlaced}, plain), api.Same},
		{about(api.Spec{Kind: api.KindPlaced}, plain), about(api.Spec{Kind: api.KindPlaced}, other), api.Unlike},
		{about(api.Spec{Kind: api.KindPlaced}), about(api.Spec{Kind: api.KindPlaced}, none), api.Same}, // nil pointers, both
		{about(api.Spec{Kind: api.KindPlaced}, plain), about(api.Spec{Kind: api.KindPlaced}, none), api.Unlike},
		{about(api.Spec{Kind: api.KindPlaced, Number: 1}), about(api.Spec{Kind: api.KindPlaced}), api.Unlike},
	} {
		if got := two(t, b, c.x, c.y); got != c.want {
			t.Errorf("row %d: %d; want %d", i, got, c.want)
		}
	}
}

// P7.1: as deep as an error may be, the panic at the bottom comes up.
func TestDeep(t *testing.T) {
	b := book.New()
	chain := func(leaf int) int {
		for i := range api.MaxDepth - 1 {
			leaf = put(t, b, api.Spec{Kind: []uint8{13, 15, 17, 20}[i%4], Parts: []int{leaf}})
		}
		return leaf
	}
	code, bag, level := put(t, b, api.Spec{Kind: 1}), put(t, b, api.Spec{Kind: 12}), put(t, b, api.Spec{Kind: 3, Re: nan})
	for _, c := range []struct{ x, y, want int }{
		{code, code, api.Same}, {bag, bag, api.Panics}, {level, level, api.Unlike}, {code, bag, api.Unlike},
	} {
		if got := two(t, b, chain(c.x), chain(c.y)); got != c.want {
			t.Errorf("chains above %d and %d: %d; want %d", c.x, c.y, got, c.want)
		}
	}
}

// few are handles among which the outcomes are well mixed: of Two of any two of
// them, and of each with itself.
func few(t testing.TB, b *book.Book) []int {
	t.Helper()
	hs := []int{0}
	for _, s := range []api.Spec{
		{Kind: 1, Number: 5}, {Kind: 1, Number: 5}, {Kind: 1}, {Kind: 2}, {Kind: 12}, {Kind: 12}, {Kind: 7, Nil: true}, {Kind: 3, Re: nan},
		{Kind: 9}, {Kind: 9, Nil: true}, {Kind: 14, Nil: true},
	} {
		hs = append(hs, put(t, b, s))
	}
	bag := hs[5]
	for _, s := range []api.Spec{{Kind: 13}, {Kind: 13, Text: "a"}, {Kind: 17}, {Kind: 17, Flag: true}} {
		s.Parts = []int{bag}
		hs = append(hs, put(t, b, s))
	}
	return hs
}

// P7.1: an array place by place, up to the first that is not Same, whatever is
// behind it: of all pairs at two places ahead of what is at the others.
func TestFour(t *testing.T) {
	b := book.New()
	hs := few(t, b)
	var d dice
	counts := [5][4]int{} // by the place that decided, and the outcome
	check := func(x, y [4]int) {
		at := 0
		for at < 3 && told(b, x[at], y[at]) == api.Same {
			at++
		}
		want := told(b, x[at], y[at])
		counts[at][want]++
		if got, e := compare.Four(b, x, y); got != want || e != api.OK {
			t.Fatalf("Four(%v, %v): %d, %d; want %d", x, y, got, e, want)
		}
	}
	for at := range 3 {
		for _, x := range hs {
			for _, y := range hs {
				for range 20 {
					v, w := [4]int{d.of(hs), d.of(hs), d.of(hs), d.of(hs)}, [4]int{d.of(hs), d.of(hs), d.of(hs), d.of(hs)}
					for i := range at {
						v[i], w[i] = 1+i%2, 2-i%2 // two Codes that are the Same
					}
					v[at], w[at] = x, y
					check(v, w)
				}
			}
		}
	}
	for _, x := range hs {
		for _, y := range hs {
			check([4]int{1, 0, 2, x}, [4]int{2, 0, 1, y})
		}
	}
	for at, n := range counts[:4] {
		if n[api.Unlike] == 0 || n[api.Panics] == 0 || (n[api.Same] > 0) != (at == 3) {
			t.Errorf("decided at %d: %v", at, n)
		}
	}
}

// P7.2: rows of unlike lengths are unlike, whatever is in them; others are gone
// through as arrays are.
func TestRows(t *testing.T) {
	b := book.New()
	hs := few(t, b)
	var d dice
	var counts [4]int
	for range 40000 {
		x, y := make([]int, d.below(7)), make([]int, 0, 8)
		for i := range x {
			x[i] = d.of(hs[:3+d.below(len(hs)-2)])
			y = append(y, x[i])
			if d.below(4) == 0 {
				y[i] = d.of(hs)
			}
		}
		if d.below(6) == 0 {
			y = append(y[:d.below(len(y)+1)], d.of(hs))
		}
		want := api.Same
		for i := 0; i < len(x) && i < len(y) && want == api.Same; i++ {
			want = told(b, x[i], y[i])
		}
		if len(x) != len(y) {
			want = api.Unlike
		}
		counts[want]++
		if got, e := compare.Rows(b, x, y); got != want || e != api.OK {
			t.Fatalf("Rows(%v, %v): %d, %d; want %d", x, y, got, e, want)
		}
	}
	if counts[api.Same] == 0 || counts[api.Unlike] == 0 || counts[api.Panics] == 0 {
		t.Error("outcomes:", counts)
	}
}

// P7.2: the edges of Rows: no places, a panic ahead of unlike lengths, and many places.
func TestRowsEdges(t *testing.T) {
	b := fourteen(t)
	many := slices.Repeat([]int{1, 7, 0, 11}, 50000)
	like := slices.Repeat([]int{2, 7, 0, 12}, 50000)
	for i, c := range []struct {
		x, y []int
		want int
	}{
		{nil, nil, api.Same}, {nil, []int{}, api.Same}, {nil, []int{0}, api.Unlike}, {[]int{0}, nil, api.Unlike},
		{[]int{4}, []int{4, 4}, api.Unlike}, {[]int{4, 4}, []int{4}, api.Unlike}, {[]int{4}, []int{4}, api.Panics},
		{[]int{3}, []int{3}, api.Unlike}, {[]int{3, 4}, []int{3, 4}, api.Unlike}, {[]int{4, 3}, []int{4, 3}, api.Panics},
		{many, like, api.Same}, {append(slices.Clone(many), 4), append(slices.Clone(like), 4), api.Panics},
		{append(slices.Clone(many), 1), append(slices.Clone(like), 4), api.Unlike}, {many, like[:len(like)-1], api.Unlike},
	} {
		if got, e := compare.Rows(b, c.x, c.y); got != c.want || e != api.OK {
			t.Errorf("row %d: %d, %d; want %d", i, got, e, c.want)
		}
	}
}

// P7.2: the first place where it comes to something else than Unlike.
func TestSeek(t *testing.T) {
	b := all(t)
	hs := some(b)
	var d dice
	var counts [4]int
	for range 20000 {
		x := d.of(hs)
		row := make([]int, d.below(12))
		for i := range row {
			row[i] = d.of(hs)
			if d.below(3) == 0 {
				row[i] = min(b.Len(), max(0, x+d.below(3)-1))
			}
		}
		at := slices.IndexFunc(row, func(y int) bool { return told(b, x, y) != api.Unlike })
		want := api.Unlike
		if at >= 0 {
			want = told(b, x, row[at])
		}
		counts[want]++
		if got, outcome, e := compare.Seek(b, x, row); got != at || outcome != want || e != api.OK {
			t.Fatalf("Seek(%d, %v): %d, %d, %d; want %d, %d", x, row, got, outcome, e, at, want)
		}
	}
	if counts[api.Same] < 1000 || counts[api.Unlike] < 1000 || counts[api.Panics] < 1000 {
		t.Error("outcomes:", counts)
	}
	for _, row := range [][]int{nil, {}} {
		if at, outcome, e := compare.Seek(b, 0, row); at != -1 || outcome != api.Unlike || e != api.OK {
			t.Errorf("Seek in an empty row: %d, %d, %d", at, outcome, e)
		}
	}
}

// P7.3: by the type alone, and nothings of both sorts.
func TestByTypeAndNothing(t *testing.T) {
	b := all(t)
	for h := 0; h <= b.Len(); h++ {
		if got, e := compare.ByType(b, h); got != hasType(b, h) || e != api.OK {
			t.Errorf("ByType(%d): %t, %d, of %+v", h, got, e, specOf(b, h))
		}
		none, typed, e := compare.Nothing(b, h)
		if none != (h == 0) || typed != specOf(b, h).Nil || e != api.OK {
			t.Errorf("Nothing(%d): %t, %t, %d, of %+v", h, none, typed, e, specOf(b, h))
		}
	}
}

// P7.3: nothings and what is about them.
func TestNothings(t *testing.T) {
	b := book.New()
	for _, kind := range []uint8{6, 7, 8, 9, 10, 14, 16, 21, 22, 23, 24, 26} {
		s := api.Spec{Kind: kind, Nil: true}
		if kind == 23 {
			s.Number = 3
		}
		h := put(t, b, s)
		if none, typed, e := compare.Nothing(b, h); none || !typed || e != api.OK {
			t.Errorf("Nothing of a typed nil of kind %d: %t, %t, %d", kind, none, typed, e)
		}
		over := put(t, b, api.Spec{Kind: 15, Parts: []int{h}})
		if none, typed, e := compare.Nothing(b, over); none || typed || e != api.OK {
			t.Errorf("Nothing of what is about a typed nil of kind %d: %t, %t, %d", kind, none, typed, e)
		}
	}
	for _, s := range []api.Spec{{Kind: 6}, {Kind: 7}, {Kind: 8}, {Kind: 9}, {Kind: 16}, {Kind: 23, Number: 3}, {Kind: 18}, {Kind: 25}, {Kind: 18, Parts: []int{7}}, {Kind: 13}, {Kind: 2}} {
		if none, typed, e := compare.Nothing(b, put(t, b, s)); none || typed || e != api.OK {
			t.Errorf("Nothing of %+v: %t, %t, %d", s, none, typed, e)
		}
	}
}

// P7.6: symmetric, transitive where it is Same, and the Same have the same faces.
func TestThreeValued(t *testing.T) {
	b := all(t)
	like := map[int][]int{}
	for x := 0; x <= b.Len(); x++ {
		for y := 0; y <= x; y++ {
			one, other := two(t, b, x, y), two(t, b, y, x)
			if one != other {
				t.Fatalf("Two(%d, %d): %d; the other way round %d", x, y, one, other)
			}
			if one == api.Same && x != y {
				like[x] = append(like[x], y)
				like[y] = append(like[y], x)
			}
		}
	}
	if len(like) < 100 {
		t.Errorf("%d errors are the Same as others", len(like))
	}
	for x, ys := range like {
		f, _ := faces.Held(b, x)
		for i, y := range ys {
			if g, _ := faces.Held(b, y); f != g {
				t.Errorf("%d and %d are the Same, with faces %b and %b", x, y, f, g)
			}
			for _, z := range ys[:i] {
				if two(t, b, y, z) != api.Same {
					t.Errorf("%d is the Same as %d and %d, which are not the Same", x, y, z)
				}
			}
		}
	}
}

// hasNaN is whether there is a NaN in an error, by its spec, or in what it holds.
func hasNaN(b *book.Book, h int) bool {
	s := specOf(b, h)
	return math.IsNaN(s.Re) || math.IsNaN(s.Im) || slices.ContainsFunc(s.Parts, func(h int) bool { return hasNaN(b, h) })
}

// P7.7: what may be a key is compared with all others without a panic; what can
// be compared by its type may panic; what is unlike itself has a NaN in it.
func TestItself(t *testing.T) {
	b := all(t)
	s, _ := compare.New(b)
	panics, unlike := 0, 0
	for x := 0; x <= b.Len(); x++ {
		key, e := s.Has(x)
		if e != api.OK || (key != api.Panics) != mayBeKey(b, x) {
			t.Fatalf("Has(%d): %d, %d, of %+v", x, key, e, specOf(b, x))
		}
		for y := 0; y <= b.Len() && key != api.Panics; y++ {
			if two(t, b, x, y) == api.Panics || two(t, b, y, x) == api.Panics {
				t.Fatalf("%d may be a key, but is not to be compared with %d", x, y)
			}
		}
		byType, _ := compare.ByType(b, x)
		switch two(t, b, x, x) {
		case api.Panics:
			if byType {
				panics++
			}
		case api.Unlike:
			unlike++
			if !hasNaN(b, x) {
				t.Errorf("unlike itself, without a NaN: %+v", specOf(b, x))
			}
		}
		if !byType && two(t, b, x, x) != api.Panics {
			t.Errorf("no type to be compared, but compared: %+v", specOf(b, x))
		}
	}
	if panics == 0 || unlike == 0 {
		t.Error(panics, "panic all the same,", unlike, "are unlike themselves")
	}
}
