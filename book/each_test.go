package book_test

import (
	"slices"
	"testing"

	"errata/api"
	"errata/book"
	"errata/kinds"
)

// handles is the handles that an Each goes through.
func handles(each func(func(int, error) bool)) (l []int) {
	for h := range each {
		l = append(l, h)
	}
	return l
}

// upTo is the numbers from 1 to n.
func upTo(n int) (l []int) {
	for i := range n {
		l = append(l, i+1)
	}
	return l
}

// P5.4: all handles, rising, each with its error.
func TestEach(t *testing.T) {
	b := book.New()
	if l := handles(b.Each()); l != nil {
		t.Error("of an empty book:", l)
	}
	every(t, b)
	if l := handles(b.Each()); !slices.Equal(l, upTo(b.Len())) {
		t.Error("the handles:", l)
	}
	for h, v := range b.Each() {
		if !same(v, errorOf(t, b, h)) {
			t.Errorf("%d: %v", h, v)
		}
	}
}

// R8: what was there when Each was called; again; within itself; left anywhere.
func TestEachRounds(t *testing.T) {
	b := book.New()
	empty := b.Each()
	for i := range 5 {
		put(t, b, api.Spec{Kind: api.KindCode, Number: int16(i)})
	}
	five := b.Each()
	for h := range five {
		put(t, b, wrap("w", h))
		if h == 3 {
			break
		}
	}
	if l := handles(empty); l != nil {
		t.Error("from the empty book:", l)
	}
	for h, v := range five {
		if v != kinds.Code(h-1) {
			t.Error("again:", h, v)
		}
		for inner, v := range five {
			if v != kinds.Code(inner-1) {
				t.Error("within:", inner, v)
			}
			if inner == h {
				break
			}
		}
	}
	if l := handles(five); !slices.Equal(l, upTo(5)) {
		t.Error("with what came later:", l)
	}
	if l := handles(b.Each()); !slices.Equal(l, upTo(8)) {
		t.Error("of all:", l)
	}
}

// P5.4: a copy has the very same errors under the same handles.
func TestCopy(t *testing.T) {
	b := book.New()
	every(t, b)
	c := b.Copy()
	if c == b || c.Len() != b.Len() {
		t.Fatal("the copy has", c.Len())
	}
	for h := 1; h <= b.Len(); h++ {
		if !same(errorOf(t, b, h), errorOf(t, c, h)) {
			t.Errorf("%d: %v, %v", h, errorOf(t, b, h), errorOf(t, c, h))
		}
		x, y := tellAll(t, b, h), tellAll(t, c, h)
		if !alike(x.spec, y.spec) || x.kind != y.kind || !slices.Equal(x.parts, y.parts) || x.size != y.size || x.depth != y.depth || x.length != y.length {
			t.Errorf("%d: %+v, %+v", h, x, y)
		}
	}
	slow := put(t, b, api.Spec{Kind: api.KindSlow, Text: "s"})
	c = b.Copy()
	if s, _, _ := c.Text(slow); s != "s" || !errorOf(t, b, slow).(*kinds.Slow).Made() {
		t.Error("the copy's Slow is another one")
	}
	if c := book.New().Copy(); c == nil || c.Len() != 0 || put(t, c, note("a")) != 1 {
		t.Error("a copy of an empty book")
	}
}

// P5.4: what is made in one of a book and its copies is not in the others, however many they have.
func TestCopiesApart(t *testing.T) {
	for n := range 40 {
		b := book.New()
		for i := range n {
			put(t, b, api.Spec{Kind: api.KindCode, Number: int16(i)})
		}
		c := b.Copy()
		d := c.Copy()
		books := []*book.Book{b, c, d, b.Copy()}
		for i, x := range books {
			put(t, x, note(string(rune('a'+i))))
		}
		books = append(books, b.Copy(), d.Copy())
		for i, x := range books {
			put(t, x, note(string(rune('A'+i))))
		}
		for i, want := range []string{"aA", "bB", "cC", "dD", "aE", "cF"} {
			x := books[i]
			if x.Len() != n+2 || errorOf(t, x, n+1) != kinds.Note(want[:1]) || errorOf(t, x, n+2) != kinds.Note(want[1:]) {
				t.Fatalf("the book %d of %d errors: %d, %v, %v", i, n, x.Len(), errorOf(t, x, n+1), errorOf(t, x, n+2))
			}
		}
		for h := range n {
			if errorOf(t, d, h+1) != kinds.Code(h) {
				t.Fatal("the copy's error", h+1, errorOf(t, d, h+1))
			}
		}
	}
}
