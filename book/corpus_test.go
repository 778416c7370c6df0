package book_test

import (
	"slices"
	"testing"

	"errata/api"
	"errata/book"
	"errata/kinds"
)

// dice throws numbers, the same ones each time.
type dice uint64

// below is a number from 0 to n - 1.
func (d *dice) below(n int) int {
	*d = *d*6364136223846793005 + 1442695040888963407
	return int(uint64(*d>>33) % uint64(n))
}

func (d *dice) text() string { return long[:d.below(5)*d.below(5)*d.below(256)] }

// part is a handle for a part, out of n: mostly one of the last ones or the
// peak, at times one that may not be.
func (d *dice) part(n, peak int) int {
	switch d.below(12) {
	case 0:
		return 0
	case 1:
		return d.below(n + 1)
	case 2:
		return n + d.below(20) - 18
	case 3, 4, 5, 6, 7, 8:
		return peak
	}
	return max(0, n-d.below(5))
}

// spec is one of a kind that may mostly be, with parts out of n errors.
func (d *dice) spec(n, peak int) api.Spec {
	s := api.Spec{Kind: uint8(d.below(28))}
	if d.below(2) == 0 {
		s.Kind = uint8(13 + d.below(8))
	}
	parts := 0
	switch s.Kind {
	case 1:
		s.Number = int16(d.below(1 << 16))
	case 2, 9:
		s.Text = d.text()
	case 3:
		s.Re = []float64{0.5, nan, minus0, 1e6}[d.below(4)]
	case 4:
		s.Re, s.Im = float64(d.below(9)), nan
	case 5:
		s.Text = "abcd"
	case 6:
		s.Items, s.Number = []string{d.text(), "a", d.text()}, int16(d.below(1<<16))
	case 7, 10, 21, 24:
		s.Text, s.Flag = d.text(), d.below(2) == 0
	case 11, 22:
		s.Number, s.Text = 5, d.text()
	case 12:
		s.Text, s.Items = d.text(), slices.Repeat([]string{d.text()}, d.below(66))
	case 13, 14, 15:
		s.Text, parts = d.text(), d.below(2)
	case 16:
		parts = d.below(5) * d.below(3)
	case 17:
		s.Flag, parts = d.below(2) == 0, d.below(2)
	case 18, 25:
		s.Number, parts = 9, d.below(2)
	case 19:
		s.Number, s.Re = 7, 0.25
	case 20:
		parts = d.below(3)
	case 23:
		s.Number, s.Small = 1, int8(d.below(256))
	case 26:
		s.Text, s.Items, s.Mask, parts = d.text(), []string{"n" + d.text()}, uint32(d.below(1<<31)), d.below(66)*d.below(2)
	}
	if d.below(12) == 0 {
		s = api.Spec{Kind: s.Kind, Nil: true}
		parts = d.below(2) * d.below(2)
	}
	for range parts {
		s.Parts = append(s.Parts, d.part(n, peak))
	}
	return s
}

// measures is what the chapter's Words say of an error, by its Spec and those of its parts.
type measures struct{ size, depth, length, words int }

// peaks is the handles of the largest, the deepest and the longest.
func peaks(known []measures) [3]int {
	var l [3]int
	for h, m := range known {
		if m.size > known[l[0]].size {
			l[0] = h
		}
		if m.depth > known[l[1]].depth {
			l[1] = h
		}
		if m.length > known[l[2]].length {
			l[2] = h
		}
	}
	return l
}

// measure is those of a spec, and what its Make answers but for a full book.
func measure(t *testing.T, b *book.Book, known []measures, s api.Spec) (measures, api.Errno) {
	m := measures{size: 1, words: len(s.Text)}
	for _, item := range s.Items {
		m.words += len(item)
	}
	var parts []error
	var lengths []int
	for _, h := range s.Parts {
		if h < 0 || h >= len(known) {
			return m, api.ErrHandle
		}
		m.size += known[h].size
		m.depth = max(m.depth, known[h].depth)
		m.words += known[h].words
		lengths = append(lengths, known[h].length)
		parts = append(parts, errorOf(t, b, h))
	}
	m.depth++
	m.length = kinds.Long(s, lengths)
	_, e := kinds.Make(s, parts)
	switch {
	case e != api.OK:
	case m.size > 4096:
		e = api.ErrSize
	case m.depth > 64:
		e = api.ErrDeep
	case m.length > 65536 || m.words > 1048576:
		e = api.ErrText
	}
	return m, e
}

// kept is what was told of a handle when it was made.
type kept struct {
	err error
	all told
}

// P5.1, P5.2, P5.5, P5.6: many errors, held against the chapter's words; at the end all is as it was.
func TestCorpus(t *testing.T) {
	count := map[api.Errno]int{}
	for round := range 30 {
		d := dice(round)
		b := book.New()
		known, first := []measures{{}}, []kept{{}}
		for range 800 {
			s := d.spec(b.Len(), peaks(known)[round%3])
			m, want := measure(t, b, known, s)
			count[want]++
			if want != api.OK {
				refused(t, b, s, want)
				continue
			}
			h := put(t, b, s)
			x := tellAll(t, b, h)
			if x.size != m.size || x.depth != m.depth || x.length != m.length || !alike(x.spec, s) || kindOf(errorOf(t, b, h)) != s.Kind {
				t.Fatalf("round %d: %d of kind %d about %v: %d, %d, %d; want %+v", round, h, s.Kind, s.Parts, x.size, x.depth, x.length, m)
			}
			known, first = append(known, m), append(first, kept{errorOf(t, b, h), x})
		}
		checkTexts(t, b)
		checkStays(t, b, first)
	}
	for _, e := range []api.Errno{api.OK, api.ErrHandle, api.ErrKind, api.ErrPart, api.ErrSize, api.ErrDeep, api.ErrText} {
		if count[e] < 10 {
			t.Errorf("the errno %d stands %d times", e, count[e])
		}
	}
}

// checkTexts holds what Text tells against Length, of all errors of a book.
func checkTexts(t *testing.T, b *book.Book) {
	for h := 1; h <= b.Len(); h++ {
		x := tellAll(t, b, h)
		text, p, e := b.Text(h)
		if e != api.OK || p.Sort == api.NoPanic && len(text) != x.length || p.Sort != api.NoPanic && text != "" {
			t.Errorf("%d: %d bytes, %v, %d; Length %d", h, len(text), p.Sort, e, x.length)
		}
		if x.size < 1 || x.size > 4096 || x.depth < 1 || x.depth > 64 || x.length < 0 || x.length > 65536 {
			t.Errorf("%d: %d, %d, %d", h, x.size, x.depth, x.length)
		}
	}
}

// checkStays holds all that a book tells against what it told first.
func checkStays(t *testing.T, b *book.Book, first []kept) {
	for h := 1; h < len(first); h++ {
		x := tellAll(t, b, h)
		y := first[h].all
		if !same(errorOf(t, b, h), first[h].err) || !alike(x.spec, y.spec) || x.kind != y.kind || x.size != y.size || x.depth != y.depth || x.length != y.length {
			t.Errorf("%d: %+v, first %+v", h, x, y)
		}
	}
}
