package kinds_test

import (
	"strings"
	"testing"

	"errata/api"
	"errata/kinds"
)

// P4.5: each kind's text, and its panics; once more the same.
func TestError(t *testing.T) {
	for _, x := range samples() {
		e := build(t, x.s, x.parts...)
		for range 2 {
			if text, sort := tells(e); text != x.text || sort != x.sort {
				t.Errorf("%+v: %q, %d; want %q, %d", x.s, text, sort, x.text, x.sort)
			}
		}
	}
}

// P4.5: a part's Error is called once; a Join's in order; that of what is not told never.
func TestErrorCalls(t *testing.T) {
	for _, x := range []struct {
		kind  uint8
		calls int
		text  string
	}{{13, 0, ""}, {14, 1, ": a"}, {15, 1, ": a"}, {16, 1, "a"}, {17, 1, "a"}, {20, 1, "veil: a"}, {26, 0, ""}} {
		a := alien("a")
		e := build(t, basis(int(x.kind)), a)
		if *a.calls != 0 {
			t.Errorf("kind %d: called by Make", x.kind)
		}
		if text, _ := tells(e); text != x.text || *a.calls != x.calls {
			t.Errorf("kind %d: %q, %d calls", x.kind, text, *a.calls)
		}
	}
	a, b := alien("a"), alien("b")
	e := build(t, api.Spec{Kind: 16}, a, boom, b)
	if text, sort := tells(e); text != "boom" || sort != api.OwnPanic || *a.calls != 1 || *b.calls != 0 {
		t.Error("behind a panic", text, sort, *a.calls, *b.calls)
	}
}

// P4.5: a part's panic is the panic, through many of them.
func TestErrorPanicsThrough(t *testing.T) {
	for _, part := range []error{boom, noText, kinds.Lazy(nil), build(t, api.Spec{Kind: 24, Text: "s", Flag: true})} {
		want, sort := tells(part)
		e := part
		for _, kind := range []uint8{14, 15, 16, 17, 20, 14, 16} {
			e = build(t, api.Spec{Kind: kind}, e)
			if text, s := tells(e); text != want || s != sort {
				t.Errorf("kind %d about %T: %q, %d", kind, part, text, s)
			}
		}
	}
}

// P4.5: Placed tells what its Plain does; Full nothing of its Wrap.
func TestErrorOfEmbedded(t *testing.T) {
	plain := build(t, api.Spec{Kind: 9, Text: "p\xff"})
	if text, sort := tells(build(t, api.Spec{Kind: 18, Number: 3}, plain)); text != "p\xff" || sort != 0 {
		t.Error("Placed", text, sort)
	}
	wrap := build(t, api.Spec{Kind: 14, Text: "w"}, boom)
	if text, sort := tells(build(t, api.Spec{Kind: 25, Text: "f"}, wrap)); text != "full: f" || sort != 0 {
		t.Error("Full", text, sort)
	}
}

// P4.5: texts of any bytes, as they are.
func TestErrorIsRaw(t *testing.T) {
	s := "\x00\n\\\"\xff\xc3\xa9: "
	for _, kind := range []uint8{2, 7, 9, 10, 11, 12, 13, 14, 15, 21, 22, 24, 26} {
		x := basis(int(kind))
		x.Text = s
		if text, sort := tells(build(t, x)); text != s || sort != 0 {
			t.Errorf("kind %d: %q, %d", kind, text, sort)
		}
	}
}

// P4.5: a tree's text is put together of its parts'.
func TestErrorOfTrees(t *testing.T) {
	e := build(t, api.Spec{Kind: 16}, kinds.Code(1), nil, note)
	e = build(t, api.Spec{Kind: 14, Text: "w"}, e)
	e = build(t, api.Spec{Kind: 20}, e)
	e = build(t, api.Spec{Kind: 17}, e)
	e = build(t, api.Spec{Kind: 15, Text: "o"}, e)
	if text, sort := tells(e); text != "o: veil: w: code 1\nn" || sort != 0 {
		t.Errorf("%q, %d", text, sort)
	}
	deep := error(note)
	for range 1000 {
		deep = build(t, api.Spec{Kind: 14, Text: "w"}, deep)
	}
	if text, sort := tells(deep); text != strings.Repeat("w: ", 1000)+"n" || sort != 0 {
		t.Error(len(text), sort)
	}
}

// Examples 1 to 6, but for what other tests have.
func TestErrorExamples(t *testing.T) {
	code := build(t, api.Spec{Kind: 1, Number: 300}).(kinds.Code)
	if code.Error() != "code 300" || code.Grade() != 44 || code.Kind() != 1 {
		t.Error("example 1", code.Error(), code.Grade(), code.Kind())
	}
	tags := build(t, api.Spec{Kind: 6, Items: []string{"b", "a", "b"}, Number: 7}).(kinds.Tags)
	none := build(t, api.Spec{Kind: 6, Nil: true}).(kinds.Tags)
	if tags.Error() != "tags a=8 b=9" || tags.Len() != 2 || none.Error() != "tags" || none.Len() != 0 {
		t.Error("example 2", tags.Error(), tags.Len(), none.Error(), none.Len())
	}
	plain := build(t, api.Spec{Kind: 9, Nil: true})
	if p, ok := plain.(*kinds.Plain); !ok || p != nil || plain == nil {
		t.Error("example 3: a Plain")
	}
	quiet := build(t, api.Spec{Kind: 10, Nil: true}).(*kinds.Quiet)
	if quiet.Error() != "quiet" || quiet.Timeout() {
		t.Error("example 3: a Quiet")
	}
	wrap := build(t, api.Spec{Kind: 14, Text: "w"}, nil).(*kinds.Wrap)
	if wrap.Error() != "w" || wrap.Unwrap() != nil {
		t.Error("example 4: a Wrap")
	}
	placed := build(t, api.Spec{Kind: 18, Number: 6}, plain).(kinds.Placed)
	if _, sort := tells(placed); placed.Line() != 6 || sort != api.RuntimePanic {
		t.Error("example 4: a Placed")
	}
	full := build(t, api.Spec{Kind: 25, Number: 5, Text: "t"})
	one, ok := full.(api.One)
	if !ok || full.Error() != "full: t" || full.(api.Coder).Code() != 5 {
		t.Fatal("example 5: a Full")
	}
	if sort, _ := panicOf(func() { one.Unwrap() }); sort != api.RuntimePanic {
		t.Error("example 5: Unwrap", sort)
	}
}
