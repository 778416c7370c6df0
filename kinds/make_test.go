package kinds_test

import (
	"slices"
	"testing"

	"errata/api"
	"errata/kinds"
)

// P4.3: the value is of its row's type, and not no error.
func TestMake(t *testing.T) {
	for _, x := range samples() {
		if e := build(t, x.s, x.parts...); e == nil || kindOf(e) != x.s.Kind {
			t.Errorf("Make(%+v): %T", x.s, e)
		}
	}
}

// P4.3: what Check refuses, and parts that do not go with the spec.
func TestMakeRefuses(t *testing.T) {
	plain, wrap := error(new(kinds.Plain)), error(new(kinds.Wrap))
	for _, x := range []struct {
		s     api.Spec
		parts []error
		want  api.Errno
	}{
		{api.Spec{}, nil, api.ErrKind},
		{api.Spec{Kind: 27}, nil, api.ErrKind},
		{api.Spec{Kind: 255}, []error{note}, api.ErrKind},
		{api.Spec{Kind: 1, Text: "x"}, nil, api.ErrKind},
		{api.Spec{Kind: 23}, nil, api.ErrKind},
		{api.Spec{Kind: 26, Nil: true, Items: []string{"x"}}, nil, api.ErrKind},
		{api.Spec{Kind: 11, Nil: true}, nil, api.ErrKind},
		{api.Spec{Kind: 1, Parts: []int{1}}, []error{note}, api.ErrPart},
		{api.Spec{Kind: 9, Nil: true, Parts: []int{0}}, []error{nil}, api.ErrPart},
		{api.Spec{Kind: 14, Parts: []int{1, 2}}, []error{note, note}, api.ErrPart},
		{api.Spec{Kind: 16, Parts: make([]int, 65)}, make([]error, 65), api.ErrPart},
		{api.Spec{Kind: 1}, []error{note}, api.ErrPart},
		{api.Spec{Kind: 1}, []error{nil}, api.ErrPart},
		{api.Spec{Kind: 14}, []error{note}, api.ErrPart},
		{api.Spec{Kind: 14}, []error{nil}, api.ErrPart},
		{api.Spec{Kind: 14, Parts: []int{1}}, nil, api.ErrPart},
		{api.Spec{Kind: 14, Parts: []int{0}}, nil, api.ErrPart},
		{api.Spec{Kind: 16, Parts: []int{1, 2}}, []error{note}, api.ErrPart},
		{api.Spec{Kind: 16, Parts: []int{1}}, []error{note, note}, api.ErrPart},
		{api.Spec{Kind: 26, Items: []string{"x"}, Parts: []int{1}}, nil, api.ErrPart},
		{api.Spec{Kind: 14, Nil: true}, []error{nil}, api.ErrPart},
		{api.Spec{Kind: 18, Parts: []int{1}}, []error{note}, api.ErrPart},
		{api.Spec{Kind: 18, Parts: []int{1}}, []error{wrap}, api.ErrPart},
		{api.Spec{Kind: 18, Parts: []int{1}}, []error{(*kinds.Wrap)(nil)}, api.ErrPart},
		{api.Spec{Kind: 18, Parts: []int{1}}, []error{kinds.Placed{}}, api.ErrPart},
		{api.Spec{Kind: 18, Parts: []int{1}}, []error{alien("x")}, api.ErrPart},
		{api.Spec{Kind: 18, Parts: []int{0}}, []error{note}, api.ErrPart},
		{api.Spec{Kind: 25, Parts: []int{1}}, []error{note}, api.ErrPart},
		{api.Spec{Kind: 25, Parts: []int{1}}, []error{plain}, api.ErrPart},
		{api.Spec{Kind: 25, Parts: []int{1}}, []error{kinds.Over{}}, api.ErrPart},
		{api.Spec{Kind: 25, Parts: []int{1}}, []error{kinds.Full{}}, api.ErrPart},
		{api.Spec{Kind: 18}, []error{plain}, api.ErrPart},
		{api.Spec{Kind: 25, Text: "x", Mask: 1, Parts: []int{1}}, []error{note}, api.ErrKind},
	} {
		if e, no := kinds.Make(x.s, x.parts); e != nil || no != x.want {
			t.Errorf("Make(%+v, %v): %v, %d", x.s, x.parts, e, no)
		}
	}
}

// P4.1: the parts are those that were handed in, whatever their numbers are.
func TestMakeParts(t *testing.T) {
	plain, wrap := error(new(kinds.Plain)), error(new(kinds.Wrap))
	for _, number := range []int{1, 0, -5, 1 << 40} {
		one := []int{number}
		make := func(s api.Spec, p error) error {
			s.Parts = one
			e, no := kinds.Make(s, []error{p})
			if no != api.OK {
				t.Fatalf("Make(%+v): %d", s, no)
			}
			return e
		}
		if h := make(api.Spec{Kind: 13}, plain).(kinds.Hold); h.Held() != any(plain) {
			t.Error("Held", h.Held())
		}
		if e := make(api.Spec{Kind: 14}, plain).(*kinds.Wrap).Unwrap(); e != plain {
			t.Error("a Wrap's Unwrap", e)
		}
		if e := make(api.Spec{Kind: 15}, plain).(kinds.Over).Unwrap(); e != plain {
			t.Error("an Over's Unwrap", e)
		}
		if p := make(api.Spec{Kind: 18}, plain).(kinds.Placed); error(p.Plain) != plain {
			t.Error("Plain", p.Plain)
		}
		if f := make(api.Spec{Kind: 25}, wrap).(kinds.Full); error(f.Wrap) != wrap {
			t.Error("Wrap", f.Wrap)
		}
		if text, sort := tells(make(api.Spec{Kind: 20}, note)); text != "veil: n" || sort != 0 {
			t.Error("Veil", text, sort)
		}
		if text, sort := tells(make(api.Spec{Kind: 17}, note)); text != "n" || sort != 0 {
			t.Error("Timed", text, sort)
		}
	}
}

// P4.1: no part, no error as the part, a typed nil as the part.
func TestMakeNothings(t *testing.T) {
	for _, parts := range [][]error{nil, {nil}} {
		if h := build(t, api.Spec{Kind: 13}, parts...).(kinds.Hold); h.Held() != nil {
			t.Error("Held", h.Held())
		}
		if e := build(t, api.Spec{Kind: 14}, parts...).(*kinds.Wrap).Unwrap(); e != nil {
			t.Error("a Wrap's Unwrap", e)
		}
		if e := build(t, api.Spec{Kind: 15}, parts...).(kinds.Over).Unwrap(); e != nil {
			t.Error("an Over's Unwrap", e)
		}
		if p := build(t, api.Spec{Kind: 18}, parts...).(kinds.Placed); p.Plain != nil {
			t.Error("Plain", p.Plain)
		}
		if f := build(t, api.Spec{Kind: 25}, parts...).(kinds.Full); f.Wrap != nil {
			t.Error("Wrap", f.Wrap)
		}
	}
	if e := build(t, api.Spec{Kind: 14}, noText).(*kinds.Wrap).Unwrap(); e == nil || e != noText {
		t.Error("a Wrap about a nil pointer")
	}
	if h := build(t, api.Spec{Kind: 13}, noText).(kinds.Hold).Held(); h == nil || h != any(noText) {
		t.Error("a Hold of a nil pointer")
	}
	if p := build(t, api.Spec{Kind: 18, Number: 4}, noText).(kinds.Placed); p.Plain != nil || p.Line() != 4 {
		t.Error("a Placed of a nil pointer")
	}
	if f := build(t, api.Spec{Kind: 25}, (*kinds.Wrap)(nil)).(kinds.Full); f.Wrap != nil {
		t.Error("a Full of a nil pointer")
	}
}

// P4.1: a new channel has no room; lists of a Box are nil only where Nil is true.
func TestMakeChannelsAndLists(t *testing.T) {
	if l := build(t, api.Spec{Kind: 8}).(kinds.Line); l == nil || cap(l) != 0 || len(l) != 0 {
		t.Error("a Line", l)
	}
	if l := build(t, api.Spec{Kind: 8, Nil: true}).(kinds.Line); l != nil {
		t.Error("a nil Line", l)
	}
	if l := build(t, api.Spec{Kind: 23, Number: 3}).(kinds.Box[[]uint8]).Item(); l == nil || len(l) != 0 {
		t.Error("an empty list", l)
	}
	if l := build(t, api.Spec{Kind: 23, Number: 3, Nil: true}).(kinds.Box[[]uint8]).Item(); l != nil {
		t.Error("a nil list", l)
	}
	if l := build(t, api.Spec{Kind: 7, Nil: true}).(kinds.Lazy); l != nil {
		t.Error("a nil function")
	}
	if l := build(t, api.Spec{Kind: 7, Text: "x"}).(kinds.Lazy); l == nil || l() != "x" {
		t.Error("a function")
	}
}

// P4.3: nothing is kept by which the error could be changed.
func TestMakeKeepsNothing(t *testing.T) {
	items := []string{"a", "b", "spare"}
	bag := build(t, api.Spec{Kind: 12, Items: items[:2]}).(kinds.Bag)
	tags := build(t, api.Spec{Kind: 6, Items: items[:2]})
	opaque := build(t, api.Spec{Kind: 26, Items: items[:1]}).(*kinds.Opaque)
	parts := []error{note, kinds.Code(1), kinds.Code(2)}
	numbers := []int{1, 2, 3}
	join, _ := kinds.Make(api.Spec{Kind: 16, Parts: numbers[:2]}, parts[:2])
	many, _ := kinds.Make(api.Spec{Kind: 26, Items: []string{"x"}, Parts: numbers[:2]}, parts[:2])
	wrap, _ := kinds.Make(api.Spec{Kind: 14, Parts: numbers[:1]}, parts[:1])
	for i := range 3 {
		items[i], parts[i], numbers[i] = "other", nil, 0
	}
	if !slices.Equal(bag.Details(), []string{"a", "b"}) || opaque.Name() != "a" {
		t.Error("items are kept", bag.Details(), opaque.Name())
	}
	if text, _ := tells(tags); text != "tags a=0 b=1" {
		t.Error("items are kept", text)
	}
	want := []error{note, kinds.Code(1)}
	if !slices.Equal(join.(*kinds.Join).Unwrap(), want) || !slices.Equal(many.(*kinds.Opaque).Unwrap(), want) || wrap.(*kinds.Wrap).Unwrap() != note {
		t.Error("parts are kept")
	}
}

// P4.3, R3: what is handed in is not changed.
func TestMakeChangesNothing(t *testing.T) {
	items, parts, numbers := []string{"b", "a", "b"}, []error{note, nil, boom}, []int{3, 0, 1}
	s := api.Spec{Kind: 26, Items: items[:1:3], Parts: numbers[:2:3]}
	kinds.Check(s)
	kinds.Long(s, numbers[:2:3])
	kinds.Make(s, parts[:2:3])
	kinds.Make(api.Spec{Kind: 6, Items: items}, nil)
	kinds.Make(api.Spec{Kind: 12, Items: items[:2]}, nil)
	if !slices.Equal(items, []string{"b", "a", "b"}) || parts[0] != note || parts[1] != nil || parts[2] == nil || !slices.Equal(numbers, []int{3, 0, 1}) {
		t.Error("changed", items, parts, numbers)
	}
}

// P4.3: no method is called.
func TestMakeCallsNothing(t *testing.T) {
	one := alien("x")
	slow := build(t, api.Spec{Kind: 24, Text: "s"}).(*kinds.Slow)
	for kind := 13; kind <= 26; kind++ {
		s := basis(kind)
		if most(kind) == 0 {
			continue
		}
		s.Parts = []int{1}
		kinds.Check(s)
		kinds.Long(s, []int{5})
		kinds.Make(s, []error{one})
		kinds.Make(s, []error{boom})
		kinds.Make(s, []error{noText})
		kinds.Make(s, []error{slow})
	}
	if *one.calls != 0 || slow.Made() {
		t.Error(*one.calls, slow.Made())
	}
}

// P4.11: a typed nil is not no error; two of one spec are unlike as pointers.
func TestNothingsAndTwice(t *testing.T) {
	for _, x := range samples() {
		one, two := build(t, x.s, x.parts...), build(t, x.s, x.parts...)
		if one == nil || two == nil {
			t.Errorf("%+v: no error", x.s)
		}
		switch x.s.Kind {
		case 8, 9, 10, 14, 16, 21, 22, 24, 26:
			if (one == two) != x.s.Nil {
				t.Errorf("two of %+v: %t", x.s, one == two)
			}
		}
	}
}

// P4.1, P4.11: of Nil the very pointer, map, function or channel is nil.
func TestTypedNils(t *testing.T) {
	nils := map[uint8]error{
		8: kinds.Line(nil), 9: (*kinds.Plain)(nil), 10: (*kinds.Quiet)(nil), 14: (*kinds.Wrap)(nil), 16: (*kinds.Join)(nil),
		21: (*kinds.Echo)(nil), 22: (*kinds.Guise)(nil), 24: (*kinds.Slow)(nil), 26: (*kinds.Opaque)(nil),
	}
	for kind, want := range nils {
		if e := build(t, api.Spec{Kind: kind, Nil: true}); e != want {
			t.Errorf("kind %d: %T", kind, e)
		}
		s := basis(int(kind))
		if e := build(t, s); e == want {
			t.Errorf("kind %d, not of Nil: %T", kind, e)
		}
	}
}
