package book_test

import (
	"sync"
	"testing"

	"errata/api"
	"errata/book"
	"errata/kinds"
)

// P5.3: texts, and the panics of both sorts, as they come through what is about them.
func TestText(t *testing.T) {
	own := func(word string) api.Panic { return api.Panic{Sort: api.OwnPanic, Word: word} }
	none, runtime := api.Panic{}, api.Panic{Sort: api.RuntimePanic}
	b := book.New()
	plain := put(t, b, note("n\xff\n"))
	lazy := put(t, b, api.Spec{Kind: 7, Text: "l\x00", Flag: true})
	slow := put(t, b, api.Spec{Kind: 24, Text: "s", Flag: true})
	typed := put(t, b, api.Spec{Kind: 9, Nil: true})
	for _, x := range []struct {
		s    api.Spec
		text string
		p    api.Panic
	}{
		{note(""), "", none},
		{note(long), long, none},
		{api.Spec{Kind: 1, Number: -5}, "code -5", none},
		{api.Spec{Kind: 4, Re: nan, Im: minus0}, "sway (NaN-0.0i)", none},
		{api.Spec{Kind: 6, Items: []string{"b", "a"}, Number: 7}, "tags a=8 b=7", none},
		{api.Spec{Kind: 7, Text: "l"}, "l", none},
		{api.Spec{Kind: 7, Text: "l", Flag: true}, "", own("l")},
		{api.Spec{Kind: 7, Flag: true}, "", own("")},
		{api.Spec{Kind: 7, Text: long, Flag: true}, "", own(long)},
		{api.Spec{Kind: 7, Nil: true}, "", runtime},
		{api.Spec{Kind: 10, Nil: true}, "quiet", none},
		{api.Spec{Kind: 17, Flag: true}, "", runtime},
		{api.Spec{Kind: 18}, "", runtime},
		{api.Spec{Kind: 18, Parts: []int{typed}}, "", runtime},
		{api.Spec{Kind: 24, Text: "s"}, "s", none},
		{api.Spec{Kind: 24, Flag: true}, "", own("")},
		{api.Spec{Kind: 24, Nil: true}, "", runtime},
		{api.Spec{Kind: 21, Text: "e", Flag: true}, "e", none},
		{wrap("w", plain), "w: n\xff\n", none},
		{wrap("w", lazy), "", own("l\x00")},
		{wrap("w", slow), "", own("s")},
		{wrap("w", typed), "", runtime},
		{wrap("w", 0), "w", none},
		{join(plain, lazy, typed), "", own("l\x00")},
		{join(0, plain, typed, lazy), "", runtime},
		{join(plain, 0, plain), "n\xff\n\nn\xff\n", none},
		{api.Spec{Kind: 13, Text: "h", Parts: []int{lazy}}, "h", none},
		{api.Spec{Kind: 26, Text: "o", Items: []string{"n"}, Parts: []int{lazy, typed}}, "o", none},
	} {
		h := put(t, b, x.s)
		for range 2 {
			if s, p, e := b.Text(h); s != x.text || p != x.p || e != api.OK {
				t.Errorf("%+v: %.80q, %.80v, %d", x.s, s, p, e)
			}
		}
	}
	if s, p, e := b.Text(0); s != "" || p != none || e != api.OK {
		t.Error("of no error:", s, p, e)
	}
}

// P5.3: what Text tells is what the error's own Error does.
func TestTextIsError(t *testing.T) {
	b := book.New()
	every(t, b)
	for h, v := range b.Each() {
		text, p, e := b.Text(h)
		own, with := tells(v)
		if text != own || e != api.OK || (p.Sort == api.NoPanic) != (with == nil) {
			t.Errorf("%d: %q, %v, %d; its Error %q, %v", h, text, p, e, own, with)
		}
		if word, ok := with.(kinds.Note); ok != (p.Sort == api.OwnPanic) || string(word) != p.Word || p.Handle != 0 {
			t.Errorf("%d: %v; gave up with %v", h, p, with)
		}
	}
}

// tells is what an error's Error tells, or what it gives up with.
func tells(e error) (text string, with any) {
	defer func() { with = recover() }()
	return e.Error(), nil
}

// R2: a text is the same whoever asks, of a Slow that none has asked yet, too.
func TestTextByMany(t *testing.T) {
	b := book.New()
	for _, flag := range []bool{false, true} {
		h := put(t, b, wrap("w", put(t, b, api.Spec{Kind: 24, Text: "s", Flag: flag})))
		var texts [8]string
		var panics [8]api.Panic
		var wait sync.WaitGroup
		for i := range texts {
			wait.Go(func() { texts[i], panics[i], _ = b.Text(h) })
		}
		wait.Wait()
		text, p, _ := b.Text(h)
		for i := range texts {
			if texts[i] != text || panics[i] != p {
				t.Errorf("Flag %t: %q, %v; then %q, %v", flag, texts[i], panics[i], text, p)
			}
		}
	}
}
