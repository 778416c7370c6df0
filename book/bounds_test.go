package book_test

import (
	"testing"

	"errata/api"
	"errata/book"
)

// codes is a Join of 64 codes: 65 nodes, 2 deep, 447 bytes.
func codes(t testing.TB, b *book.Book) int {
	t.Helper()
	return put(t, b, join(times(put(t, b, api.Spec{Kind: api.KindCode}), 64)...))
}

// sized is an error of 4096 nodes, 64 deep.
func sized(t testing.TB, b *book.Book) int {
	t.Helper()
	many := codes(t, b)
	few := put(t, b, join(times(many-1, 3)...))
	return wraps(t, b, put(t, b, join(append(times(many, 62), few)...)), 61)
}

// worded is a Join of 16 notes that tells so many bytes, from 61456 to 65551.
func worded(t testing.TB, b *book.Book, length int) int {
	t.Helper()
	one := put(t, b, note(long))
	rest := put(t, b, note(long[:length-15*(api.MaxWord+1)]))
	return put(t, b, join(append(times(one, 15), rest)...))
}

// bags is a Bag of 262144 bytes of words, without a text.
func bags(t testing.TB, b *book.Book) int {
	t.Helper()
	s := api.Spec{Kind: api.KindBag}
	for range api.MaxItems {
		s.Items = append(s.Items, long)
	}
	return put(t, b, s)
}

// P5.6: as many nodes as may be, counted as a tree, and one more.
func TestMaxSize(t *testing.T) {
	b := book.New()
	many := codes(t, b)
	full := put(t, b, join(times(many, 63)...))
	if x := tellAll(t, b, full); x.size != 4096 || x.depth != 3 || b.Len() != 3 {
		t.Error("the greatest:", x.size, x.depth, b.Len())
	}
	refused(t, b, join(append(times(many, 63), 1)...), api.ErrSize)
	refused(t, b, join(times(many, 64)...), api.ErrSize)
	refused(t, b, join(times(full, 64)...), api.ErrSize)
	refused(t, b, join(full, full), api.ErrSize)
	put(t, b, join(append(times(many, 63), 0)...))
	for _, kind := range []uint8{13, 14, 15, 17, 20} {
		refused(t, b, api.Spec{Kind: kind, Parts: []int{full}}, api.ErrSize)
		put(t, b, api.Spec{Kind: kind, Parts: []int{many}})
	}
	refused(t, b, api.Spec{Kind: 26, Items: []string{"n"}, Parts: []int{0, full}}, api.ErrSize)
}

// P5.6: as deep as may be, and one deeper.
func TestMaxDepth(t *testing.T) {
	b := book.New()
	deep := wraps(t, b, put(t, b, note("a")), 63)
	if x := tellAll(t, b, deep); x.size != 64 || x.depth != 64 {
		t.Error("the deepest:", x.size, x.depth)
	}
	for _, kind := range []uint8{13, 14, 15, 16, 17, 20} {
		refused(t, b, api.Spec{Kind: kind, Parts: []int{deep}}, api.ErrDeep)
		h := put(t, b, api.Spec{Kind: kind, Parts: []int{deep - 1}})
		if d, e := b.Depth(h); d != 64 || e != api.OK {
			t.Errorf("kind %d: %d, %d", kind, d, e)
		}
	}
	refused(t, b, join(1, deep, 2), api.ErrDeep)
	refused(t, b, api.Spec{Kind: 26, Items: []string{"n"}, Parts: []int{0, 1, deep}}, api.ErrDeep)
	refused(t, b, api.Spec{Kind: 25, Parts: []int{deep}}, api.ErrDeep)
	put(t, b, api.Spec{Kind: 25, Parts: []int{deep - 1}})
	put(t, b, join(1, deep-1, 2))
}

// P5.6: as long a text as may be, and one byte more.
func TestMaxText(t *testing.T) {
	b := book.New()
	full := worded(t, b, 65536)
	if s, p, e := b.Text(full); len(s) != 65536 || p != (api.Panic{}) || e != api.OK || tellAll(t, b, full).length != 65536 {
		t.Error("the longest:", len(s), p, e)
	}
	rest := put(t, b, note(long[:4082]))
	refused(t, b, join(append(times(full-2, 15), rest)...), api.ErrText)
	refused(t, b, join(times(full-2, 64)...), api.ErrText)
	refused(t, b, wrap("", full), api.ErrText)
	refused(t, b, api.Spec{Kind: 15, Parts: []int{full}}, api.ErrText)
	refused(t, b, api.Spec{Kind: 20, Parts: []int{full}}, api.ErrText)
	refused(t, b, join(full, 1), api.ErrText)
	refused(t, b, join(full, full), api.ErrText)
	// Of these the text is not grown by their parts'.
	for _, s := range []api.Spec{{Kind: 13, Text: long}, {Kind: 17}, {Kind: 16}, {Kind: 26, Text: long, Items: []string{"n"}}} {
		s.Parts = []int{full}
		put(t, b, s)
	}
	less := worded(t, b, 65536-10)
	put(t, b, wrap("12345678", less))
	refused(t, b, wrap("123456789", less), api.ErrText)
	put(t, b, api.Spec{Kind: 20, Parts: []int{less}})
}

// P5.6: as many words as may be, as a tree, and one byte more.
func TestMaxWords(t *testing.T) {
	b := book.New()
	bag := bags(t, b)
	x := put(t, b, note("x"))
	four := put(t, b, join(times(bag, 4)...))
	refused(t, b, join(append(times(bag, 4), x)...), api.ErrText)
	refused(t, b, join(times(bag, 5)...), api.ErrText)
	refused(t, b, join(four, x), api.ErrText)
	refused(t, b, wrap("x", four), api.ErrText)
	refused(t, b, api.Spec{Kind: 13, Text: "x", Parts: []int{four}}, api.ErrText)
	refused(t, b, api.Spec{Kind: 26, Items: []string{"n"}, Parts: []int{four}}, api.ErrText)
	for _, kind := range []uint8{13, 14, 15, 16, 17, 20} {
		put(t, b, api.Spec{Kind: kind, Parts: []int{four}})
	}
	put(t, b, join(four, 0, put(t, b, api.Spec{Kind: 1, Number: 7})))
	// An Opaque's name is a word, too.
	three := put(t, b, join(times(bag, 3)...))
	name := []string{long}
	last := put(t, b, api.Spec{Kind: 26, Items: name, Parts: append(times(put(t, b, note(long)), 63), 0)})
	put(t, b, join(three, last))
	longer := put(t, b, api.Spec{Kind: 26, Items: name, Text: "x", Parts: append(times(last-1, 63), 0)})
	refused(t, b, join(three, longer), api.ErrText)
}

// P5.1: as many errors as may be, and one more; a full book tells all else ahead of that.
func TestMaxBook(t *testing.T) {
	b := book.New()
	size := sized(t, b)
	many := size - 63
	deep := wraps(t, b, worded(t, b, 65536-124), 62)
	text := worded(t, b, 65536)
	pair := put(t, b, join(times(put(t, b, api.Spec{Kind: api.KindCode}), 48)...))
	for b.Len() < 65535 {
		put(t, b, api.Spec{Kind: api.KindCode, Number: int16(b.Len())})
	}
	nearly := b.Copy()
	put(t, b, api.Spec{Kind: api.KindCode})
	for _, x := range []struct {
		s    api.Spec
		want api.Errno
	}{
		{note(""), api.ErrFull},
		{wrap("", 65536), api.ErrFull},
		{wrap("", 65537), api.ErrHandle},
		{api.Spec{Kind: 27}, api.ErrKind},
		{api.Spec{Kind: 1, Parts: []int{0}}, api.ErrPart},
		{wrap("", size), api.ErrSize},                               // too deep, too
		{wrap("", deep), api.ErrDeep},                               // its text is too long, too
		{join(append(times(many, 62), text, pair)...), api.ErrSize}, // its text is too long, too
		{wrap("", text), api.ErrText},
	} {
		refused(t, b, x.s, x.want)
		if x.want != api.ErrFull && x.want != api.ErrHandle {
			refused(t, nearly, x.s, x.want)
		}
	}
	if v, e := b.Error(65536); v == nil || e != api.OK {
		t.Error("the last one:", v, e)
	}
	refused(t, b.Copy(), note(""), api.ErrFull)
	if h := put(t, nearly, note("last")); h != 65536 {
		t.Error("the copy's last one:", h)
	}
	refused(t, nearly, note(""), api.ErrFull)
}

// What the order's errors are made of is at the bounds.
func TestAtBounds(t *testing.T) {
	b := book.New()
	if x := tellAll(t, b, sized(t, b)); x.size != 4096 || x.depth != 64 {
		t.Error("sized:", x.size, x.depth)
	}
	if x := tellAll(t, b, wraps(t, b, worded(t, b, 65536-124), 62)); x.length != 65536 || x.depth != 64 {
		t.Error("deep:", x.length, x.depth)
	}
	if x := tellAll(t, b, codes(t, b)); x.size != 65 || x.depth != 2 || x.length != 447 {
		t.Error("codes:", x.size, x.depth, x.length)
	}
}
