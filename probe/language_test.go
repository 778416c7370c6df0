package probe_test

import (
	"reflect"
	"slices"
	"testing"

	"errata/api"
	"errata/book"
	"errata/kinds"
	"errata/probe"
)

func typeOf[T any]() reflect.Type { return reflect.TypeFor[T]() }

// faceTypes are the faces' types, by their numbers, as package api declares them.
var faceTypes = []reflect.Type{
	1: typeOf[error](), 2: typeOf[api.Grader](), 3: typeOf[api.Coder](), 4: typeOf[api.Weigher](),
	5: typeOf[api.Phaser](), 6: typeOf[api.Timer](), 7: typeOf[api.Liner](), 8: typeOf[api.Detailer](),
	9: typeOf[api.One](), 10: typeOf[api.Many](), 11: typeOf[api.Judge](), 12: typeOf[api.Lender](),
	13: typeOf[api.Kinder](), 14: typeOf[api.Sizer](), 15: typeOf[api.TimedError](),
	16: typeOf[api.CodedCause](), 17: typeOf[api.Whole](), 18: typeOf[api.Nobody](), 19: typeOf[any](),
}

// kindTypes are the kinds' types, by their numbers.
var kindTypes = [][]reflect.Type{
	1: {typeOf[kinds.Code]()}, 2: {typeOf[kinds.Note]()}, 3: {typeOf[kinds.Level]()}, 4: {typeOf[kinds.Sway]()},
	5: {typeOf[kinds.Mark]()}, 6: {typeOf[kinds.Tags]()}, 7: {typeOf[kinds.Lazy]()}, 8: {typeOf[kinds.Line]()},
	9: {typeOf[*kinds.Plain]()}, 10: {typeOf[*kinds.Quiet]()}, 11: {typeOf[kinds.Coded]()}, 12: {typeOf[kinds.Bag]()},
	13: {typeOf[kinds.Hold]()}, 14: {typeOf[*kinds.Wrap]()}, 15: {typeOf[kinds.Over]()}, 16: {typeOf[*kinds.Join]()},
	17: {typeOf[kinds.Timed]()}, 18: {typeOf[kinds.Placed]()}, 19: {typeOf[kinds.Twin]()}, 20: {typeOf[kinds.Veil]()},
	21: {typeOf[*kinds.Echo]()}, 22: {typeOf[*kinds.Guise]()},
	23: {typeOf[kinds.Box[int8]](), typeOf[kinds.Box[float64]](), typeOf[kinds.Box[[]uint8]]()},
	24: {typeOf[*kinds.Slow]()}, 25: {typeOf[kinds.Full]()}, 26: {typeOf[*kinds.Opaque]()},
}

// asks plays both forms of an assertion that holds, or does not.
func asks(t *testing.T, b *book.Book, h int, tells, must api.Op, is bool) {
	t.Helper()
	plays(t, b, []api.Op{load(h), tells}, []api.Out{flag(1, is)}, api.EndHalt, 2)
	if is {
		plays(t, b, []api.Op{load(h), must}, nil, api.EndHalt, 2)
	} else {
		plays(t, b, []api.Op{load(h), must}, []api.Out{panicked(1, runtime)}, api.EndPanic, 2)
	}
}

// P8.4: what the values that the book hands out have, as their types tell it;
// the forms that must hold panic just where the others say no.
func TestLanguage(t *testing.T) {
	b := all(t)
	for h := 0; h <= b.Len(); h++ {
		v, _ := b.Error(h)
		has := func(of reflect.Type) bool { return v != nil && reflect.TypeOf(v).Implements(of) }
		for face := uint8(1); face <= 19; face++ {
			is := has(faceTypes[face])
			asks(t, b, h, isFace(face), mustFace(face), is)
			if got, e := probe.Holds(b, h, face); got != is || e != api.OK {
				t.Errorf("Holds(%d, %d): %t, %d", h, face, got, e)
			}
		}
		for kind := uint8(1); kind <= 26; kind++ {
			is := v != nil && slices.Contains(kindTypes[kind], reflect.TypeOf(v))
			asks(t, b, h, isKind(kind), mustKind(kind), is)
			if got, e := probe.Is(b, h, kind); got != is || e != api.OK {
				t.Errorf("Is(%d, %d): %t, %d", h, kind, got, e)
			}
		}
	}
}
