package faces_test

import (
	"math/bits"
	"testing"

	"errata/api"
	"errata/faces"
)

// The chapter's examples of sets and names.
func TestExamplesOfSets(t *testing.T) {
	for _, c := range []struct {
		face uint8
		want uint32
		e    api.Errno
	}{{api.FaceWhole, set(1, 2, 4, 6), api.OK}, {api.FaceAny, 0, api.OK}, {0, 0, api.ErrFace}} {
		if got, e := faces.Methods(c.face); got != c.want || e != c.e {
			t.Errorf("Methods(%d): %b, %d", c.face, got, e)
		}
	}
	for _, c := range []struct {
		one, other uint8
		want       bool
	}{
		{api.FaceTimedError, api.FaceTimer, true}, {api.FaceTimer, api.FaceTimedError, false},
		{api.FaceNobody, api.FaceAny, true}, {api.FaceAny, api.FaceAny, true},
	} {
		if got, e := faces.Follows(c.one, c.other); got != c.want || e != api.OK {
			t.Errorf("Follows(%d, %d): %t, %d", c.one, c.other, got, e)
		}
	}
	for _, c := range []struct {
		call      string
		got, want uint32
	}{
		{"Closure(error Timer)", faces.Closure(set(1, 6)), set(1, 6, 15, 19)},
		{"Core(error Timer TimedError any)", faces.Core(set(1, 6, 15, 19)), set(15)},
		{"Core(any)", faces.Core(set(19)), set(19)}, {"Closure(none)", faces.Closure(0), set(19)},
	} {
		if c.got != c.want {
			t.Errorf("%s: %b", c.call, c.got)
		}
	}
	if name, e := faces.Name(9); name != "One" || e != api.OK {
		t.Errorf("Name(9): %q, %d", name, e)
	}
	if face, ok := faces.Named("One"); face != 9 || !ok {
		t.Errorf("Named(One): %d, %t", face, ok)
	}
	if face, ok := faces.Named("Four"); face != 0 || ok {
		t.Errorf("Named(Four): %d, %t", face, ok)
	}
}

// P6.5: the methods of the faces, by the table and by their types.
func TestMethods(t *testing.T) {
	table := map[uint8]uint32{15: set(1, 6), 16: set(3, 9), 17: set(1, 2, 4, 6), 18: set(15), 19: 0}
	for face := uint8(1); face <= 14; face++ {
		table[face] = set(face)
	}
	for face := uint8(1); face <= last; face++ {
		if got, e := faces.Methods(face); got != table[face] || got != methodsOf(t, face) || e != api.OK {
			t.Errorf("Methods(%d): %b, %d", face, got, e)
		}
	}
	for _, face := range noFaces {
		wrong(t, "Methods", of(faces.Methods(face)), api.ErrFace)
		wrong(t, "Name", of(faces.Name(face)), api.ErrFace)
	}
}

// P6.5: what follows from what, as the language has it: of each two faces.
func TestFollows(t *testing.T) {
	for one := uint8(1); one <= last; one++ {
		for other := uint8(1); other <= last; other++ {
			if got, e := faces.Follows(one, other); got != types[one].Implements(types[other]) || e != api.OK {
				t.Errorf("Follows(%d, %d): %t, %d", one, other, got, e)
			}
		}
		for _, none := range noFaces {
			wrong(t, "Follows", of(faces.Follows(one, none)), api.ErrFace)
			wrong(t, "Follows", of(faces.Follows(none, one)), api.ErrFace)
			wrong(t, "Follows", of(faces.Follows(none, none)), api.ErrFace)
		}
	}
}

// P6.6: the names, by the table, and back.
func TestNames(t *testing.T) {
	names := []string{
		"error", "Grader", "Coder", "Weigher", "Phaser", "Timer", "Liner", "Detailer", "One", "Many", "Judge",
		"Lender", "Kinder", "Sizer", "TimedError", "CodedCause", "Whole", "Nobody", "any",
	}
	if len(names) != int(last) {
		t.Fatal(len(names), "names")
	}
	for i, name := range names {
		face := uint8(i + 1)
		if got, e := faces.Name(face); got != name || e != api.OK {
			t.Errorf("Name(%d): %q, %d", face, got, e)
		}
		if got, ok := faces.Named(name); got != face || !ok {
			t.Errorf("Named(%q): %d, %t", name, got, ok)
		}
	}
	for _, name := range []string{"", " ", "Error", "grader", "GRADER", "Any", "One ", " One", "On", "Ones", "one", "error\x00", "interface{}", "9", "\xff"} {
		if got, ok := faces.Named(name); got != 0 || ok {
			t.Errorf("Named(%q): %d, %t", name, got, ok)
		}
	}
}

// together are the methods of all faces of a set.
func together(methods [last + 1]uint32, faces uint32) uint32 {
	var all uint32
	for face := uint8(1); face <= last; face++ {
		if faces&set(face) != 0 {
			all |= methods[face]
		}
	}
	return all
}

// within is the set of the faces whose methods are among some.
func within(methods [last + 1]uint32, among uint32) uint32 {
	var faces uint32
	for face := uint8(1); face <= last; face++ {
		if methods[face]&^among == 0 {
			faces |= set(face)
		}
	}
	return faces
}

// least is those of a set that follow from no other one of it. (No two faces
// have the same methods: TestNoTwoAlike.)
func least(methods [last + 1]uint32, faces uint32) uint32 {
	core := faces & every
	for face := uint8(1); face <= last; face++ {
		for other := uint8(1); other <= last; other++ {
			if face != other && faces&set(face) != 0 && faces&set(other) != 0 && methods[face]&^methods[other] == 0 {
				core &^= set(face)
			}
		}
	}
	return core
}

// P6.5, P6.8: Closure and Core of all sets of faces.
func TestAllSets(t *testing.T) {
	methods := allMethods(t)
	step := uint32(2)
	if testing.Short() {
		step = 62
	}
	for s := uint32(0); s <= every; s += step {
		closure, core := faces.Closure(s), faces.Core(s)
		switch {
		case closure != within(methods, together(methods, s)):
			t.Fatalf("Closure(%b): %b", s, closure)
		case core != least(methods, s):
			t.Fatalf("Core(%b): %b", s, core)
		case s&^closure != 0 || faces.Closure(closure) != closure:
			t.Fatalf("Closure(%b): %b, and of it %b", s, closure, faces.Closure(closure))
		case core&^s != 0 || faces.Closure(core) != closure:
			t.Fatalf("Core(%b): %b, with the closure %b", s, core, faces.Closure(core))
		}
	}
}

// The bits that stand for no face are not looked at.
func TestBitsBeside(t *testing.T) {
	var d dice
	for range 2000 {
		s := uint32(d.below(1<<20)) & every
		for _, more := range []uint32{1, 1 << 20, 1 << 31, beside, uint32(d.below(1<<32)) & beside} {
			if faces.Closure(s|more) != faces.Closure(s) || faces.Core(s|more) != faces.Core(s) {
				t.Fatalf("%b and %b: %b, %b", s, more, faces.Closure(s|more), faces.Core(s|more))
			}
		}
	}
	if faces.Closure(beside) != set(api.FaceAny) || faces.Core(beside) != 0 || faces.Core(0) != 0 {
		t.Errorf("of no faces: %b, %b, %b", faces.Closure(beside), faces.Core(beside), faces.Core(0))
	}
}

// P6.8: Closure rises with its set.
func TestClosureRises(t *testing.T) {
	var d dice
	for range 20000 {
		s := uint32(d.below(1<<20)) & uint32(d.below(1<<20))
		more := s | 1<<d.below(20)
		if faces.Closure(s)&^faces.Closure(more) != 0 {
			t.Fatalf("Closure(%b) and Closure(%b): %b, %b", s, more, faces.Closure(s), faces.Closure(more))
		}
	}
}

// No two faces have the same methods, so none stands for another one in a Core.
func TestNoTwoAlike(t *testing.T) {
	methods := allMethods(t)
	for one := uint8(1); one <= last; one++ {
		for other := one + 1; other <= last; other++ {
			if methods[one] == methods[other] {
				t.Errorf("%d and %d have %b", one, other, methods[one])
			}
		}
	}
}

// P6.7: what an error holds is its own Closure, and hangs on its kind alone;
// and what Follows says is so of each error.
func TestWhatFollows(t *testing.T) {
	b := all(t)
	byKind := map[uint8]uint32{}
	for h := range b.Each() {
		held, _ := faces.Held(b, h)
		kind, _ := b.Kind(h)
		if first, ok := byKind[kind]; ok && first != held {
			t.Errorf("kind %d holds %b and %b", kind, first, held)
		}
		byKind[kind] = held
		if faces.Closure(held) != held {
			t.Errorf("Held(%d): %b, with the closure %b", h, held, faces.Closure(held))
		}
		for one := uint8(1); one <= last; one++ {
			for other := uint8(1); other <= last; other++ {
				follows, _ := faces.Follows(one, other)
				if follows && held&set(one) != 0 && held&set(other) == 0 {
					t.Errorf("%d holds %d, but not %d", h, one, other)
				}
			}
		}
	}
}

// P6.7: an error holds all of a set just if it holds its Core's faces, and all
// faces of Closure of it.
func TestHoldsAllOfASet(t *testing.T) {
	b := all(t)
	var d dice
	some, none := 0, 0
	for range 20000 {
		held, _ := faces.Held(b, 1+d.below(b.Len()))
		s := held & uint32(d.below(1<<20))
		if d.below(2) == 0 {
			s |= 1 << (1 + d.below(19))
		}
		holds := func(s uint32) bool { return s&^held == 0 }
		if holds(s) != holds(faces.Core(s)) || holds(s) != holds(faces.Closure(s)) {
			t.Fatalf("of %b: %b, its core %b, its closure %b", held, s, faces.Core(s), faces.Closure(s))
		}
		if !holds(s) {
			none++
		} else if bits.OnesCount32(s) > 1 {
			some++
		}
	}
	if some < 100 || none < 100 {
		t.Error(some, "are held,", none, "are not")
	}
}
