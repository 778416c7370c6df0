package faces_test

import (
	"reflect"
	"slices"
	"testing"

	"errata/api"
	"errata/book"
	"errata/kinds"
)

// last is the face with the greatest number.
const last = api.FaceAny

// every is the set of all faces.
const every uint32 = 0xFFFFE

// beside are the bits of a set that stand for no face.
const beside = ^every

// set is the set of some numbers.
func set(numbers ...uint8) uint32 {
	var s uint32
	for _, n := range numbers {
		s |= 1 << n
	}
	return s
}

// noFaces are numbers that are no faces.
var noFaces = []uint8{0, last + 1, last + 2, 31, 32, 33, 64, 127, 128, 255}

func typeOf[T any]() reflect.Type { return reflect.TypeFor[T]() }

// types are the faces' types, by their numbers, as package api declares them.
var types = map[uint8]reflect.Type{
	1: typeOf[error](), 2: typeOf[api.Grader](), 3: typeOf[api.Coder](), 4: typeOf[api.Weigher](),
	5: typeOf[api.Phaser](), 6: typeOf[api.Timer](), 7: typeOf[api.Liner](), 8: typeOf[api.Detailer](),
	9: typeOf[api.One](), 10: typeOf[api.Many](), 11: typeOf[api.Judge](), 12: typeOf[api.Lender](),
	13: typeOf[api.Kinder](), 14: typeOf[api.Sizer](), 15: typeOf[api.TimedError](),
	16: typeOf[api.CodedCause](), 17: typeOf[api.Whole](), 18: typeOf[api.Nobody](), 19: typeOf[any](),
}

// signatures are the methods' numbers, as the chapter has them.
var signatures = map[string]uint8{
	"Error() string": 1, "Grade() int8": 2, "Code() int16": 3, "Weight() float64": 4, "Phase() complex128": 5,
	"Timeout() bool": 6, "Line() int16": 7, "Details() []string": 8, "Unwrap() error": 9, "Unwrap() []error": 10,
	"Is(error) bool": 11, "As(interface {}) bool": 12, "Kind() uint8": 13, "Len() int": 14, "Never()": 15,
}

// methodsOf is the set of a face's methods, as its type has them.
func methodsOf(t testing.TB, face uint8) uint32 {
	t.Helper()
	var methods uint32
	for m := range types[face].NumMethod() {
		method := types[face].Method(m)
		number := signatures[method.Name+method.Type.String()[len("func"):]]
		if number == 0 {
			t.Fatalf("face %d has a method %s %v", face, method.Name, method.Type)
		}
		methods |= 1 << number
	}
	return methods
}

// allMethods are the sets of methods of all faces, by number.
func allMethods(t testing.TB) (methods [last + 1]uint32) {
	t.Helper()
	for face := uint8(1); face <= last; face++ {
		methods[face] = methodsOf(t, face)
	}
	return methods
}

// heldBy is the set of the faces that the value of a handle holds, as its type
// says it.
func heldBy(t testing.TB, b *book.Book, h int) uint32 {
	t.Helper()
	v, e := b.Error(h)
	if e != api.OK {
		t.Fatalf("Error(%d): %d", h, e)
	}
	var faces uint32
	for face, of := range types {
		if v != nil && reflect.TypeOf(v).Implements(of) {
			faces |= 1 << face
		}
	}
	return faces
}

// heldByKind is the chapter of the kinds' table: the faces beside error and any.
var heldByKind = [...][]uint8{
	1: {2, 13}, 2: {13}, 3: {4, 13}, 4: {5}, 5: {}, 6: {14}, 7: {}, 8: {}, 9: {}, 10: {6, 15}, 11: {2, 3}, 12: {8}, 13: {},
	14: {9}, 15: {9}, 16: {10}, 17: {6, 15}, 18: {7}, 19: {2, 4}, 20: {}, 21: {11}, 22: {12}, 23: {}, 24: {},
	25: {2, 3, 9, 16}, 26: {10},
}

// put makes an error that must be made: its handle.
func put(t testing.TB, b *book.Book, s api.Spec) int {
	t.Helper()
	h, e := b.Make(s)
	if e != api.OK {
		t.Fatalf("Make(%+v): %d", s, e)
	}
	return h
}

// all is a book with an error of each kind, with parts and without, and with
// each kind's typed nil. Many of them panic, whatever is called.
func all(t testing.TB) *book.Book {
	t.Helper()
	b := book.New()
	for _, kind := range []uint8{6, 7, 8, 9, 10, 14, 16, 21, 22, 24, 26} {
		put(t, b, api.Spec{Kind: kind, Nil: true})
	}
	plain, wrap := 4, 6
	for _, s := range []api.Spec{
		{Kind: 23, Number: 3, Nil: true}, {Kind: 1, Number: -300}, {Kind: 2, Text: "n\xff"}, {Kind: 3, Re: 0.5}, {Kind: 4, Im: -2.5},
		{Kind: 5, Text: "\x00\xffab"}, {Kind: 6, Items: []string{"b", "a"}}, {Kind: 7, Text: "l"}, {Kind: 7, Text: "l", Flag: true}, {Kind: 8},
		{Kind: 9, Text: "p"}, {Kind: 10, Text: "q", Flag: true}, {Kind: 11, Number: 128, Text: "c"}, {Kind: 12, Items: []string{"x"}},
		{Kind: 19, Number: 5, Re: 1.5}, {Kind: 21, Text: "e"}, {Kind: 21, Text: "e", Flag: true}, {Kind: 22, Text: "g", Number: 5},
		{Kind: 23, Number: 1, Small: -128}, {Kind: 23, Number: 2, Re: 0.25}, {Kind: 23, Number: 3, Text: "by"},
		{Kind: 24, Text: "s"}, {Kind: 24, Text: "s", Flag: true},
	} {
		put(t, b, s)
	}
	leaves := b.Len()
	for h := range leaves + 1 {
		for _, kind := range []uint8{13, 14, 15, 16, 17, 20} {
			put(t, b, api.Spec{Kind: kind, Parts: []int{h}})
		}
		put(t, b, api.Spec{Kind: 26, Items: []string{"x"}, Mask: ^uint32(0), Parts: []int{h, 0, h}})
	}
	about := put(t, b, api.Spec{Kind: 14, Parts: []int{b.Len()}})
	for _, kind := range []uint8{13, 14, 15, 16, 17, 18, 20, 25} {
		put(t, b, api.Spec{Kind: kind})
	}
	for _, part := range []int{0, plain, 22} {
		put(t, b, api.Spec{Kind: 18, Parts: []int{part}})
	}
	for _, part := range []int{0, wrap, about} {
		put(t, b, api.Spec{Kind: 25, Parts: []int{part}})
	}
	return b
}

// The help's book has errors of all kinds, the typed nils, and Slows that were
// not asked yet.
func TestHelp(t *testing.T) {
	b := all(t)
	var kind, nils [27]int
	for h := range b.Each() {
		s, _ := b.Spec(h)
		kind[s.Kind]++
		if s.Nil {
			nils[s.Kind]++
		}
	}
	for k := 1; k <= 26; k++ {
		if kind[k] == nils[k] {
			t.Errorf("none of kind %d", k)
		}
	}
	if nils != [27]int{6: 1, 7: 1, 8: 1, 9: 1, 10: 1, 14: 1, 16: 1, 21: 1, 22: 1, 23: 1, 24: 1, 26: 1} {
		t.Error("typed nils:", nils)
	}
	if len(slows(b)) != 2 {
		t.Error(len(slows(b)), "Slows")
	}
	for face, of := range types {
		if of.Kind() != reflect.Interface {
			t.Errorf("face %d is a %v", face, of)
		}
	}
}

// slows are a book's Slows that are no nil.
func slows(b *book.Book) []*kinds.Slow {
	var found []*kinds.Slow
	for _, v := range b.Each() {
		if s, ok := v.(*kinds.Slow); ok && s != nil {
			found = append(found, s)
		}
	}
	return found
}

// dice throws numbers, the same ones each time.
type dice uint64

// below is a number from 0 to n - 1.
func (d *dice) below(n int) int {
	*d = *d*6364136223846793005 + 1442695040888963407
	return int(uint64(*d>>33) % uint64(n))
}

// road is a row of faces, of which few are not held by the value that has these.
func (d *dice) road(held uint32) []uint8 {
	var road []uint8
	for range d.below(65) {
		face := uint8(1 + d.below(int(last)))
		for d.below(20) > 0 && held&set(face) == 0 && held != 0 {
			face = uint8(1 + d.below(int(last)))
		}
		road = append(road, face)
	}
	return road
}

// withRoom is a copy of a list with room behind its end, which is filled with x;
// and that room.
func withRoom[T any](list []T, x T) (copied, room []T) {
	copied = append(slices.Clone(list), x, x, x)
	return copied[:len(list)], copied[len(list):]
}
