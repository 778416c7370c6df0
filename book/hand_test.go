package book_test

import (
	"fmt"
	"slices"
	"testing"

	"errata/api"
	"errata/book"
	"errata/kinds"
)

// R3: lists that are handed in are not kept, nor changed, with the room behind their ends.
func TestHandedIn(t *testing.T) {
	b := book.New()
	put(t, b, note("a"))
	put(t, b, note("b"))
	items, parts := []string{"x", "y", "z"}, []int{1, 2, 1, 2}
	bag := put(t, b, api.Spec{Kind: api.KindBag, Items: items[:2]})
	tags := put(t, b, api.Spec{Kind: api.KindTags, Items: items[:2]})
	both := put(t, b, join(parts[:2]...))
	opaque := put(t, b, api.Spec{Kind: 26, Items: items[:1], Parts: parts[1:3]})
	b.Make(api.Spec{Kind: 26, Items: items[:2], Parts: parts[:3]})
	if !slices.Equal(items, []string{"x", "y", "z"}) || !slices.Equal(parts, []int{1, 2, 1, 2}) {
		t.Error("changed:", items, parts)
	}
	clear(items)
	clear(parts)
	for _, x := range []struct {
		h    int
		want api.Spec
	}{
		{bag, api.Spec{Kind: api.KindBag, Items: []string{"x", "y"}}},
		{tags, api.Spec{Kind: api.KindTags, Items: []string{"x", "y"}}},
		{both, join(1, 2)},
		{opaque, api.Spec{Kind: 26, Items: []string{"x"}, Parts: []int{2, 1}}},
	} {
		if s, e := b.Spec(x.h); !alike(s, x.want) || e != api.OK {
			t.Errorf("kept: %+v; want %+v", s, x.want)
		}
	}
	if l := errorOf(t, b, bag).(api.Detailer).Details(); !slices.Equal(l, []string{"x", "y"}) {
		t.Error("kept by the Bag:", l)
	}
	if s, _, _ := b.Text(both); s != "a\nb" {
		t.Errorf("kept by the Join: %q", s)
	}
}

// R3, P5.5: lists that are handed out are new memory, with their spare room.
func TestHandedOut(t *testing.T) {
	b := book.New()
	put(t, b, note("a"))
	s := api.Spec{Kind: 26, Items: []string{"n"}, Parts: times(1, 3)}
	h := put(t, b, s)
	bag := put(t, b, api.Spec{Kind: api.KindBag, Items: []string{"x", "y", "z"}})
	for range 3 {
		got, _ := b.Spec(h)
		parts, _ := b.Parts(h)
		other, _ := b.Spec(bag)
		if !alike(got, s) || !slices.Equal(parts, s.Parts) || !slices.Equal(other.Items, []string{"x", "y", "z"}) {
			t.Fatalf("changed: %+v, %v, %+v", got, parts, other)
		}
		for _, l := range [][]string{got.Items, other.Items} {
			l = append(l, "behind")[:1]
			for i := range l[:cap(l)] {
				l[:cap(l)][i] = "other"
			}
		}
		for _, l := range [][]int{got.Parts, parts} {
			for i := range l[:cap(l)] {
				l[:cap(l)][i] = 9
			}
		}
		many := errorOf(t, b, h).(api.Many).Unwrap()
		clear(many[:cap(many)])
		details := errorOf(t, b, bag).(api.Detailer).Details()
		clear(details[:cap(details)])
		if s, p, e := b.Text(h); s != "" || p != (api.Panic{}) || e != api.OK || len(errorOf(t, b, h).(api.Many).Unwrap()) != 3 || errorOf(t, b, h).(api.Many).Unwrap()[0] == nil {
			t.Error("the error is changed")
		}
	}
	one, _ := b.Spec(h)
	two, _ := b.Spec(h)
	if &one.Parts[0] == &two.Parts[0] || &one.Items[0] == &two.Items[0] {
		t.Error("two Specs share")
	}
}

// isNil is whether an error is the nil pointer, map, function, channel or list of its kind.
func isNil(e error) bool {
	switch x := e.(type) {
	case kinds.Tags:
		return fmt.Sprintf("%#v", x) == fmt.Sprintf("%#v", kinds.Tags{})
	case kinds.Lazy:
		return x == nil
	case kinds.Line:
		return x == nil
	case *kinds.Plain:
		return x == nil
	case *kinds.Quiet:
		return x == nil
	case *kinds.Wrap:
		return x == nil
	case *kinds.Join:
		return x == nil
	case *kinds.Echo:
		return x == nil
	case *kinds.Guise:
		return x == nil
	case kinds.Box[[]uint8]:
		return x.Item() == nil
	case *kinds.Slow:
		return x == nil
	case *kinds.Opaque:
		return x == nil
	}
	return false
}

// P5.5: a type switch tells the kind's type; a nil one just where Nil is true, and never no error.
func TestTypes(t *testing.T) {
	b := book.New()
	for h, s := range every(t, b) {
		if h == 0 {
			continue
		}
		v := errorOf(t, b, h)
		if v == nil || kindOf(v) != s.Kind || isNil(v) != s.Nil {
			t.Errorf("%d of %+v: %T, nil: %t", h, s, v, isNil(v))
		}
	}
}

// partsOf is the very errors of a handle's parts.
func partsOf(t testing.TB, b *book.Book, h int) (l []error) {
	parts, _ := b.Parts(h)
	for _, p := range parts {
		l = append(l, errorOf(t, b, p))
	}
	return l
}

// P5.5: Unwrap tells the very errors of the parts (of a Full its Wrap's).
func TestUnwrap(t *testing.T) {
	b := book.New()
	ones, manies := 0, 0
	for h, s := range every(t, b) {
		if h == 0 || s.Nil {
			continue
		}
		parts := partsOf(t, b, h)
		switch v := errorOf(t, b, h).(type) {
		case kinds.Full:
			if v.Wrap != nil && !same(v.Wrap, parts[0]) {
				t.Errorf("%d: its Wrap is no part", h)
			}
			if v.Wrap != nil && !same(v.Unwrap(), partsOf(t, b, s.Parts[0])[0]) {
				t.Errorf("%d: Unwrap %v", h, v.Unwrap())
			}
		case api.One:
			ones++
			if got := v.Unwrap(); len(parts) == 0 && got != nil || len(parts) == 1 && !same(got, parts[0]) {
				t.Errorf("%d: Unwrap %v; parts %v", h, got, parts)
			}
		case api.Many:
			manies++
			if got := v.Unwrap(); !slices.EqualFunc(got, parts, same) {
				t.Errorf("%d: Unwrap %v; parts %v", h, got, parts)
			}
		}
	}
	if ones < 50 || manies < 3 {
		t.Error("too few:", ones, manies)
	}
}

// P5.2: the parts are within the kinds that tell them otherwise, too.
func TestPartsWithin(t *testing.T) {
	b := book.New()
	plain := put(t, b, api.Spec{Kind: api.KindPlain, Text: "p"})
	hold := errorOf(t, b, put(t, b, api.Spec{Kind: api.KindHold, Parts: []int{plain}})).(kinds.Hold)
	placed := errorOf(t, b, put(t, b, api.Spec{Kind: api.KindPlaced, Parts: []int{plain}})).(kinds.Placed)
	if v := errorOf(t, b, plain); hold.Held() != any(v) || error(placed.Plain) != v {
		t.Error(hold.Held(), placed.Plain)
	}
	none := errorOf(t, b, put(t, b, api.Spec{Kind: api.KindHold, Parts: []int{0}})).(kinds.Hold)
	if none.Held() != nil {
		t.Error(none.Held())
	}
	typed := put(t, b, api.Spec{Kind: api.KindPlain, Nil: true})
	full := errorOf(t, b, put(t, b, wrap("w", typed))).(api.One)
	if v := full.Unwrap(); v == nil || v != error((*kinds.Plain)(nil)) {
		t.Error("a typed nil as the cause:", v)
	}
}

// P5.5: errors by pointers, and Lines, are alike by == just if their handles are.
func TestAlike(t *testing.T) {
	b := book.New()
	for range 2 {
		every(t, b)
	}
	byPointer := []uint8{8, 9, 10, 14, 16, 21, 22, 24, 26}
	var hs []int
	for h := 1; h <= b.Len(); h++ {
		if s, _ := b.Spec(h); slices.Contains(byPointer, s.Kind) && !s.Nil {
			hs = append(hs, h)
		}
	}
	for _, h := range hs {
		for _, other := range hs {
			if got := errorOf(t, b, h) == errorOf(t, b, other); got != (h == other) {
				t.Errorf("%d and %d: %t", h, other, got)
			}
		}
	}
}
