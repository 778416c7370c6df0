package kinds_test

import (
	"errors"
	"math"
	"reflect"
	"slices"
	"strings"
	"testing"

	"errata/api"
	"errata/kinds"
)

// methods is which methods the type of each kind has, rising.
var methods = [...]string{
	"", "Error Grade Kind", "Error Kind", "Error Kind Weight", "Error Phase", "Error", "Error Len", "Error", "Error", "Error", "Error Timeout",
	"Code Error Grade", "Details Error", "Error Held", "Error Unwrap", "Error Unwrap", "Error Unwrap", "Error Timeout", "Error Line",
	"Error Grade Weight", "Error", "Error Is", "As Error", "Error Item", "Error Made", "Code Error Grade Unwrap", "Error Mask Name Unwrap",
}

// P4.4: the methods are these and no others; those of values have value receivers.
func TestMethods(t *testing.T) {
	for _, x := range samples() {
		typ := reflect.TypeOf(build(t, x.s, x.parts...))
		var names []string
		for i := range typ.NumMethod() {
			names = append(names, typ.Method(i).Name)
		}
		if got := strings.Join(names, " "); got != methods[x.s.Kind] {
			t.Errorf("%v: %s", typ, got)
		}
		byPointer := slices.Contains([]uint8{9, 10, 14, 16, 21, 22, 24, 26}, x.s.Kind)
		if byPointer != (typ.Kind() == reflect.Pointer) || byPointer && typ.Elem().NumMethod() != 0 {
			t.Errorf("%v: by its pointer: %t", typ, byPointer)
		}
	}
}

// P4.6: what is answered of numbers.
func TestNumbers(t *testing.T) {
	for n := -32768; n <= 32767; n++ {
		low := int8(n & 255)
		code, coded := kinds.Code(n), build(t, api.Spec{Kind: 11, Number: int16(n)}).(kinds.Coded)
		if code.Grade() != low || coded.Grade() != low || int(coded.Code()) != n {
			t.Fatalf("%d: %d, %d, %d", n, code.Grade(), coded.Grade(), coded.Code())
		}
	}
	for _, x := range []float64{0, minus0, 1.5, inf, -inf, nan} {
		l := build(t, api.Spec{Kind: 3, Re: x}).(kinds.Level).Weight()
		w := build(t, api.Spec{Kind: 19, Re: x}).(kinds.Twin).Weight()
		p := build(t, api.Spec{Kind: 4, Re: x, Im: -x}).(kinds.Sway).Phase()
		b := build(t, api.Spec{Kind: 23, Number: 2, Re: x}).(kinds.Box[float64]).Item()
		if !alike(l, x) || !alike(w, x) || !alike(b, x) || !alike(real(p), x) || !alike(imag(p), -x) {
			t.Errorf("%v: %v, %v, %v, %v", x, l, w, b, p)
		}
	}
	twin := build(t, api.Spec{Kind: 19, Number: 200, Re: 2}).(kinds.Twin)
	full := build(t, api.Spec{Kind: 25, Number: 200}).(kinds.Full)
	if twin.Grade() != -56 || full.Grade() != -56 || full.Code() != 200 {
		t.Error(twin.Grade(), full.Grade(), full.Code())
	}
	if kinds.Code(9).Kind() != 1 || kinds.Note("x").Kind() != 2 || kinds.Level(9).Kind() != 3 {
		t.Error("Kind")
	}
}

func alike(x, y float64) bool { return x != x && y != y || math.Float64bits(x) == math.Float64bits(y) }

// P4.6: the others.
func TestOthers(t *testing.T) {
	tags := build(t, api.Spec{Kind: 6, Items: []string{"a", "b", "a", ""}}).(kinds.Tags)
	if tags.Len() != 3 {
		t.Error("Len", tags.Len())
	}
	for _, flag := range []bool{false, true} {
		q := build(t, api.Spec{Kind: 10, Flag: flag}).(*kinds.Quiet)
		for _, part := range []error{nil, note} {
			if d := build(t, api.Spec{Kind: 17, Flag: flag}, part).(kinds.Timed); d.Timeout() != flag || q.Timeout() != flag {
				t.Error("Timeout", flag)
			}
		}
	}
	items := []string{"x", "", "x"}
	if l := build(t, api.Spec{Kind: 12, Items: items}).(kinds.Bag).Details(); !slices.Equal(l, items) {
		t.Error("Details", l)
	}
	parts := []error{note, nil, noText, note}
	j := build(t, api.Spec{Kind: 16}, parts...).(*kinds.Join)
	o := build(t, api.Spec{Kind: 26, Items: []string{"a.b"}, Mask: 1<<31 | 5}, parts...).(*kinds.Opaque)
	if !slices.Equal(j.Unwrap(), parts) || !slices.Equal(o.Unwrap(), parts) || o.Name() != "a.b" || o.Mask() != 1<<31|5 {
		t.Error("Unwrap", j.Unwrap(), o.Unwrap(), o.Name(), o.Mask())
	}
	if n := build(t, api.Spec{Kind: 23, Number: 1, Small: -128}).(kinds.Box[int8]).Item(); n != -128 {
		t.Error("Item", n)
	}
	if l := build(t, api.Spec{Kind: 23, Number: 3, Text: "a\xff"}).(kinds.Box[[]uint8]).Item(); !slices.Equal(l, []uint8{'a', 255}) {
		t.Error("Item", l)
	}
	wrap := build(t, api.Spec{Kind: 14}, note)
	if e := build(t, api.Spec{Kind: 25}, wrap).(kinds.Full).Unwrap(); e != note {
		t.Error("a Full's Unwrap", e)
	}
}

// P4.6: lists are new memory each time, with the room behind their ends.
func TestListsAreNew(t *testing.T) {
	bag := build(t, api.Spec{Kind: 12, Items: []string{"a", "b"}}).(kinds.Bag)
	join := build(t, api.Spec{Kind: 16}, note, boom).(*kinds.Join)
	opaque := build(t, api.Spec{Kind: 26, Items: []string{"x"}}, note, boom).(*kinds.Opaque)
	box := build(t, api.Spec{Kind: 23, Number: 3, Text: "ab"}).(kinds.Box[[]uint8])
	spoil(bag.Details(), "other")
	spoil(join.Unwrap(), error(kinds.Code(1)))
	spoil(opaque.Unwrap(), error(kinds.Code(1)))
	kept := box.Item()
	spoil(box.Item(), 'z')
	if text, _ := tells(box); text != "box ab" || string(box.Item()) != "ab" || string(kept) != "ab" {
		t.Error("Item", text, box.Item(), kept)
	}
	if !slices.Equal(bag.Details(), []string{"a", "b"}) || join.Unwrap()[0] != note || opaque.Unwrap()[0] != note {
		t.Error("a list is shared")
	}
}

// spoil overwrites a list, and the room behind its end.
func spoil[T any](l []T, x T) {
	for i := range l[:cap(l)] {
		l[:cap(l)][i] = x
	}
}

// P4.5, P4.6: a method of a nil pointer panics, run-time, but for Quiet's two and Made.
func TestNilPointers(t *testing.T) {
	var (
		p *kinds.Plain
		w *kinds.Wrap
		j *kinds.Join
		e *kinds.Echo
		g *kinds.Guise
		s *kinds.Slow
		o *kinds.Opaque
		q *kinds.Quiet
	)
	for name, f := range map[string]func(){
		"Plain.Error": func() { _ = p.Error() }, "Wrap.Error": func() { _ = w.Error() }, "Wrap.Unwrap": func() { _ = w.Unwrap() },
		"Join.Error": func() { _ = j.Error() }, "Join.Unwrap": func() { _ = j.Unwrap() },
		"Echo.Error": func() { _ = e.Error() }, "Echo.Is": func() { e.Is(note) }, "Echo.Is of none": func() { e.Is(nil) },
		"Guise.Error": func() { _ = g.Error() }, "Guise.As": func() { g.As(new(kinds.Coded)) },
		"Guise.As of none": func() { g.As(nil) }, "Guise.As of an int": func() { g.As(new(int)) }, "Guise.As of a Coder": func() { g.As(new(api.Coder)) },
		"Slow.Error":   func() { _ = s.Error() },
		"Opaque.Error": func() { _ = o.Error() }, "Opaque.Unwrap": func() { _ = o.Unwrap() }, "Opaque.Name": func() { _ = o.Name() }, "Opaque.Mask": func() { _ = o.Mask() },
		"Full.Unwrap": func() { _ = kinds.Full{}.Unwrap() }, "Placed.Error": func() { _ = kinds.Placed{}.Error() }, "Timed.Error": func() { _ = kinds.Timed{}.Error() },
	} {
		if sort, _ := panicOf(f); sort != api.RuntimePanic {
			t.Errorf("%s: %d", name, sort)
		}
	}
	if q.Error() != "quiet" || q.Timeout() || s.Made() {
		t.Error("Quiet, Made")
	}
}

// P4.7: Is.
func TestEcho(t *testing.T) {
	for _, x := range []struct {
		text, target string
		want         bool
	}{{"ab", "abc", true}, {"ab", "ab", true}, {"ab", "a", false}, {"ab", "xab", false}, {"", "", true}, {"", "x", true}, {"a", "", false}, {"\xc3", "\xc3\xa9", true}} {
		target := alien(x.target)
		e := build(t, api.Spec{Kind: 21, Text: x.text}).(*kinds.Echo)
		if is := e.Is(target); is != x.want || *target.calls != 1 {
			t.Errorf("%q is %q: %t, %d calls", x.target, x.text, is, *target.calls)
		}
	}
	harsh := build(t, api.Spec{Kind: 21, Text: "x", Flag: true}).(*kinds.Echo)
	target := alien("x")
	for _, to := range []error{target, nil, boom, noText} {
		if sort, word := panicOf(func() { harsh.Is(to) }); sort != api.OwnPanic || word != "x" {
			t.Errorf("harsh of %T: %d, %q", to, sort, word)
		}
	}
	if *target.calls != 0 {
		t.Error("harsh, and the target is called")
	}
	for _, text := range []string{"", "x"} {
		e := build(t, api.Spec{Kind: 21, Text: text}).(*kinds.Echo)
		if sort, _ := panicOf(func() { e.Is(nil) }); sort != api.RuntimePanic {
			t.Errorf("no target: %d", sort)
		}
		if sort, word := panicOf(func() { e.Is(boom) }); sort != api.OwnPanic || word != "boom" {
			t.Errorf("a target that panics: %d, %q", sort, word)
		}
	}
}

// P4.7: As.
func TestGuise(t *testing.T) {
	g := build(t, api.Spec{Kind: 22, Text: "g", Number: 300}).(*kinds.Guise)
	want := build(t, api.Spec{Kind: 11, Text: "g", Number: 300})
	var coded kinds.Coded
	if !g.As(&coded) || error(coded) != want {
		t.Error("a Coded", coded)
	}
	var coder api.Coder
	if !g.As(&coder) || any(coder) != any(want) {
		t.Error("a Coder", coder)
	}
	var e error
	var grader api.Grader
	var code kinds.Code
	for _, target := range []any{nil, coded, coder, &e, &grader, &code, new(int), new(*kinds.Coded), new(any), g, "x", new(api.CodedCause)} {
		if g.As(target) {
			t.Errorf("a %T", target)
		}
	}
	if e != nil || grader != nil {
		t.Error("lent", e, grader)
	}
	for _, target := range []any{(*kinds.Coded)(nil), (*api.Coder)(nil)} {
		if sort, _ := panicOf(func() { g.As(target) }); sort != api.RuntimePanic {
			t.Errorf("a nil %T: %d", target, sort)
		}
	}
	var as kinds.Coded
	if !errors.As(build(t, api.Spec{Kind: 14}, g), &as) || error(as) != want {
		t.Error("errors.As", as)
	}
}

// P4.8: what is written without Make answers by the same rules.
func TestMadeByHand(t *testing.T) {
	type small int8
	calls := 0
	for _, x := range []struct {
		e    error
		text string
		sort int
	}{
		{kinds.Code(3), "code 3", 0}, {kinds.Note(""), "", 0}, {kinds.Level(0), "level 0.0", 0}, {kinds.Sway(1i), "sway (0.0+1.0i)", 0},
		{kinds.Mark{1, 2, 3, 255}, "mark 010203ff", 0}, {kinds.Tags{}, "tags", 0}, {kinds.Line(nil), "line", 0}, {make(kinds.Line, 4), "line", 0},
		{kinds.Lazy(func() string { calls++; return "l" }), "l", 0}, {kinds.Lazy(func() string { panic(7) }), "", other},
		{new(kinds.Plain), "", 0}, {new(kinds.Quiet), "", 0}, {kinds.Coded{}, "", 0}, {kinds.Bag{}, "", 0}, {kinds.Hold{}, "", 0},
		{new(kinds.Wrap), "", 0}, {kinds.Over{}, "", 0}, {new(kinds.Join), "", 0}, {kinds.Timed{}, "", api.RuntimePanic},
		{kinds.Placed{}, "", api.RuntimePanic}, {kinds.Placed{Plain: new(kinds.Plain)}, "", 0}, {kinds.Twin{}, "twin 0 0.0", 0},
		{kinds.Twin{Code: -4, Level: 2.5}, "twin -4 2.5", 0}, {kinds.Veil{}, "veil", 0}, {new(kinds.Echo), "", 0}, {new(kinds.Guise), "", 0},
		{kinds.Box[string]{}, "box", 0}, {kinds.Box[any]{}, "box", 0}, {kinds.Box[small]{}, "box", 0}, {kinds.Box[int]{}, "box", 0}, {kinds.Box[error]{}, "box", 0},
		{kinds.Box[float32]{}, "box", 0}, {kinds.Box[[]int8]{}, "box", 0}, {kinds.Box[*int8]{}, "box", 0}, {kinds.Box[[0]uint8]{}, "box", 0},
		{kinds.Box[int8]{}, "box 0", 0}, {kinds.Box[float64]{}, "box 0.0", 0}, {kinds.Box[[]uint8]{}, "box ", 0},
		{new(kinds.Slow), "", api.RuntimePanic}, {kinds.Full{}, "full: ", 0}, {kinds.Full{Wrap: new(kinds.Wrap)}, "full: ", 0}, {new(kinds.Opaque), "", 0},
	} {
		for range 2 {
			if text, sort := tells(x.e); text != x.text || sort != x.sort {
				t.Errorf("%T: %q, %d", x.e, text, sort)
			}
		}
	}
	if calls != 2 {
		t.Error("a Lazy is called each time", calls)
	}
	p, f := kinds.Placed{}, kinds.Full{Wrap: new(kinds.Wrap)}
	if p.Line() != 0 || f.Unwrap() != nil || f.Code() != 0 || f.Grade() != 0 || (kinds.Timed{}).Timeout() || (kinds.Hold{}).Held() != nil || kinds.Over.Unwrap(kinds.Over{}) != nil {
		t.Error("numbers")
	}
	if len(new(kinds.Join).Unwrap()) != 0 || len(new(kinds.Opaque).Unwrap()) != 0 || len(kinds.Bag{}.Details()) != 0 || (kinds.Tags{}).Len() != 0 {
		t.Error("lists")
	}
	if new(kinds.Opaque).Name() != "" || new(kinds.Opaque).Mask() != 0 || (kinds.Box[string]{}).Item() != "" || (kinds.Box[any]{}).Item() != nil {
		t.Error("names")
	}
	var lent kinds.Coded
	if !new(kinds.Echo).Is(note) || !new(kinds.Guise).As(&lent) || lent != (kinds.Coded{}) {
		t.Error("Is, As")
	}
	if (kinds.Twin{Code: 300}).Grade() != 44 || (kinds.Twin{Level: 3}).Weight() != 3 {
		t.Error("a Twin")
	}
}
