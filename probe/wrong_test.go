package probe_test

import (
	"math"
	"slices"
	"testing"

	"errata/api"
	"errata/book"
	"errata/probe"
)

// What names none in a book of five errors, what is no kind, what is no face.
var (
	badHandles = []int{-1, 6, 7, 1 << 16, 1 << 32, 1<<32 + 1, math.MaxInt, math.MinInt}
	badKinds   = []uint8{0, 27, 28, 128, 255}
	badFaces   = []uint8{0, 20, 21, 26, 128, 255}
)

// The section 'Errors': a nil book ahead of all else.
func TestNilBook(t *testing.T) {
	for _, code := range [][]api.Op{nil, {halt}, {{}}, {halt, {Code: 19}}, times(10001, halt)} {
		at, e := probe.Check(nil, code)
		wrong(t, "Check", api.ErrNil, e, at)
		outs, end, steps, e := probe.Run(nil, code)
		wrong(t, "Run", api.ErrNil, e, outs, end, steps)
	}
	for _, h := range []int{0, 1, -1} {
		for _, n := range []uint8{0, 1, 200} {
			is, e := probe.Holds(nil, h, n)
			wrong(t, "Holds", api.ErrNil, e, is)
			is, e = probe.Is(nil, h, n)
			wrong(t, "Is", api.ErrNil, e, is)
			v, p, e := probe.Call(nil, h, n, h, 0)
			wrong(t, "Call", api.ErrNil, e, v, p)
		}
	}
}

// A handle that names none is told ahead of what is no face or no kind; of Call
// the target, too, whatever the face.
func TestBadHandles(t *testing.T) {
	b := five(t)
	for _, h := range badHandles {
		for _, n := range slices.Concat(badKinds, badFaces, []uint8{1, api.FaceJudge, 19, 26}) {
			is, e := probe.Holds(b, h, n)
			wrong(t, "Holds", api.ErrHandle, e, is)
			is, e = probe.Is(b, h, n)
			wrong(t, "Is", api.ErrHandle, e, is)
			for _, good := range []int{0, 1, 5} {
				v, p, e := probe.Call(b, h, n, good, 0)
				wrong(t, "Call", api.ErrHandle, e, v, p)
				v, p, e = probe.Call(b, good, n, h, 0)
				wrong(t, "Call", api.ErrHandle, e, v, p)
			}
		}
	}
}

// What is no face, what is no kind; of no error, too.
func TestNoTypes(t *testing.T) {
	b := five(t)
	for h := range 6 {
		for _, face := range badFaces {
			is, e := probe.Holds(b, h, face)
			wrong(t, "Holds", api.ErrFace, e, is)
			v, p, e := probe.Call(b, h, face, 0, 0)
			wrong(t, "Call", api.ErrFace, e, v, p)
		}
		for _, kind := range badKinds {
			is, e := probe.Is(b, h, kind)
			wrong(t, "Is", api.ErrKind, e, is)
		}
	}
}

// refused is an op that may not be: at the place where it stands, the first such.
func refused(t *testing.T, b *book.Book, op api.Op) {
	t.Helper()
	for _, ahead := range []int{0, 1, 7} {
		code := program(times(ahead, halt), []api.Op{op}, times(7-ahead, halt), []api.Op{{}})
		if at, e := probe.Check(b, code); at != ahead || e != api.ErrOp {
			t.Errorf("Check of %+v at %d: %d, %d", op, ahead, at, e)
		}
		outs, end, steps, e := probe.Run(b, code)
		wrong(t, "Run", api.ErrOp, e, outs, end, steps)
	}
}

// allowed is an op that may be, in a program of nine; the last of many, too.
func allowed(t *testing.T, b *book.Book, op api.Op) {
	t.Helper()
	if at, e := probe.Check(b, append(times(8, halt), op)); at != 0 || e != api.OK {
		t.Errorf("Check of %+v: %d, %d", op, at, e)
	}
}

// P8.1: which What, H and N each op may have, up to each bound. A program of
// nine ops has the places 0 to 9.
func TestCheck(t *testing.T) {
	b := five(t)
	badPlaces := []int{-1, 10, 1 << 32, math.MaxInt, math.MinInt}
	for _, code := range []uint8{api.OpLoad, api.OpSame} {
		for _, h := range badHandles {
			refused(t, b, api.Op{Code: code, H: h})
		}
		for h := range 6 {
			allowed(t, b, api.Op{Code: code, H: h, N: -1, What: 200, Cases: []api.Clause{{Kind: 99, To: -1}}})
		}
	}
	for _, code := range []uint8{api.OpKind, api.OpMustKind} {
		for _, kind := range badKinds {
			refused(t, b, api.Op{Code: code, What: kind})
		}
		for kind := uint8(1); kind <= 26; kind++ {
			allowed(t, b, api.Op{Code: code, What: kind, H: -1, N: -1})
		}
	}
	for _, code := range []uint8{api.OpFace, api.OpMustFace, api.OpCall, api.OpPart} {
		for _, face := range badFaces {
			refused(t, b, api.Op{Code: code, What: face})
		}
		for face := uint8(1); face <= 19; face++ {
			op := api.Op{Code: code, What: face, H: -1, N: -1}
			if code == api.OpCall && face == api.FaceJudge {
				refused(t, b, op)
				op.H = 5
			}
			allowed(t, b, op)
		}
	}
	for _, h := range badHandles {
		refused(t, b, api.Op{Code: api.OpCall, What: api.FaceJudge, H: h})
	}
	for _, code := range []uint8{api.OpJump, api.OpIf, api.OpCatch, api.OpSwitch} {
		for _, n := range badPlaces {
			refused(t, b, api.Op{Code: code, N: n})
		}
		for n := range 10 {
			allowed(t, b, api.Op{Code: code, N: n, H: -1, What: 200})
		}
	}
	for _, code := range []uint8{api.OpNil, api.OpPush, api.OpPop, api.OpDone, api.OpPanic, api.OpHalt} {
		allowed(t, b, api.Op{Code: code, What: 200, H: -1, N: -1, Cases: []api.Clause{{To: -1}}})
	}
	for _, code := range []uint8{0, 19, 20, 128, 255} {
		refused(t, b, api.Op{Code: code})
	}
}

// P8.1: which clauses a switch may have.
func TestCheckClauses(t *testing.T) {
	b := five(t)
	bad := []api.Clause{{To: -1}, {To: 10}, {To: math.MinInt}, {Kind: 1, To: 10}, {Face: 1, To: -1}, {Kind: 27}, {Kind: 255}, {Face: 20}, {Face: 255}, {Kind: 1, Face: 1}, {Kind: 26, Face: 19}, {Kind: 27, Face: 20}, {Kind: 1, Face: 20}, {Kind: 27, Face: 1}}
	for _, c := range bad {
		refused(t, b, choose(0, c))
		refused(t, b, choose(9, api.Clause{}, c))
		refused(t, b, choose(9, c, api.Clause{Kind: 1}))
	}
	refused(t, b, choose(10, api.Clause{}))
	for n := uint8(0); n <= 26; n++ {
		allowed(t, b, choose(0, api.Clause{Kind: n, To: 9}, api.Clause{Face: min(n, 19)}, api.Clause{To: 9}))
	}
	allowed(t, b, choose(0, slices.Repeat([]api.Clause{{Kind: 5}}, 100000)...))
}

// P8.1: how many ops there may be, ahead of what they are.
func TestTooManyOps(t *testing.T) {
	b := five(t)
	for _, code := range [][]api.Op{times(10001, halt), times(10001, api.Op{}), times(100000, halt)} {
		at, e := probe.Check(b, code)
		wrong(t, "Check", api.ErrArg, e, at)
		outs, end, steps, e := probe.Run(b, code)
		wrong(t, "Run", api.ErrArg, e, outs, end, steps)
	}
	if at, e := probe.Check(b, times(10000, halt)); at != 0 || e != api.OK {
		t.Errorf("Check of 10000 ops: %d, %d", at, e)
	}
	if at, e := probe.Check(b, append(times(9999, halt), api.Op{})); at != 9999 || e != api.ErrOp {
		t.Errorf("Check of a bad last op: %d, %d", at, e)
	}
}

// R1: a book without errors, and one that nobody made.
func TestEmptyBook(t *testing.T) {
	for _, b := range []*book.Book{book.New(), new(book.Book)} {
		plays(t, b, []api.Op{load(0), isNil, same(0), isFace(19), isKind(1), catch(7), call(api.FaceError), part(api.FaceOne, 0)},
			[]api.Out{flag(1, true), flag(2, true), flag(3, false), flag(4, false), panicked(6, runtime), panicked(7, runtime)}, api.EndPanic, 8)
		if at, e := probe.Check(b, []api.Op{load(1)}); at != 0 || e != api.ErrOp {
			t.Errorf("Check of a load of 1: %d, %d", at, e)
		}
	}
}

// P8.4, R7: a program without OpCall, OpPart and OpSame calls no method: what
// the first one makes was not made; nor do those two call an Error.
func TestNothingIsCalled(t *testing.T) {
	b := all(t)
	for h := range b.Each() {
		code := []api.Op{load(h), isNil, push, pop, goIf(0), choose(6, api.Clause{To: 6}, api.Clause{Kind: 2, To: 6}, api.Clause{Face: 18, To: 6})}
		for n := uint8(1); n <= 26; n++ {
			code = append(code, isKind(n), catch(len(code)+3), mustKind(n))
			code = append(code, isFace(min(n, 19)), catch(len(code)+3), mustFace(min(n, 19)))
		}
		code = append(code, catch(len(code)+2), same(h), catch(len(code)+4), part(api.FaceAny, 0))
		code = append(code, catch(len(code)+2), giveUp)
		if _, end, _, e := probe.Run(b, code); end != api.EndHalt || e != api.OK {
			t.Fatalf("of %d: %d, %d", h, end, e)
		}
		probe.Holds(b, h, 1)
		probe.Is(b, h, 24)
		for face := uint8(2); face <= 19; face++ {
			if face != api.FaceJudge && face != api.FaceTimedError {
				probe.Call(b, h, face, h, 0)
			}
		}
	}
	for _, s := range slows(b) {
		if s.Made() {
			t.Error("an Error was called")
		}
	}
	for h := range b.Each() {
		probe.Run(b, []api.Op{load(h), call(api.FaceError)})
	}
	for _, s := range slows(b) {
		if !s.Made() {
			t.Error("an Error was not called")
		}
	}
}

// R3: a program stays as it was, with the room behind it and its clauses; what
// is handed out is new.
func TestListsStay(t *testing.T) {
	b := five(t)
	bag := put(t, b, api.Spec{Kind: 12, Items: []string{"a", "b"}})
	cases, behind := withRoom([]api.Clause{{Face: api.FaceMany, To: 4}, {Kind: 12, To: 2}}, api.Clause{To: 9})
	code, after := withRoom([]api.Op{load(bag), choose(3, cases...), call(api.FaceDetailer), call(api.FaceDetailer)}, halt)
	want := []api.Out{says(2, list(text("a"), text("b"))), says(3, list(text("a"), text("b")))}
	for range 3 {
		outs, end, steps, e := probe.Run(b, code)
		if !slices.EqualFunc(outs, want, alikeOut) || end != api.EndHalt || steps != 4 || e != api.OK {
			t.Fatalf("Run: %+v, %d, %d, %d", outs, end, steps, e)
		}
		for i := range outs[0].Value.List {
			outs[0].Value.List[i] = api.Value{}
		}
		if !alikeOut(outs[1], want[1]) {
			t.Error("two lists of one answer share")
		}
		for i := range outs[:cap(outs)] {
			outs[:cap(outs)][i] = api.Out{At: 99}
		}
	}
	if code[0].H != bag || code[1].Cases[0] != (api.Clause{Face: api.FaceMany, To: 4}) || code[1].Cases[1] != (api.Clause{Kind: 12, To: 2}) {
		t.Error("the program was changed:", code)
	}
	for i := range behind {
		if behind[i] != (api.Clause{To: 9}) || after[i].Code != api.OpHalt {
			t.Error("the room was changed:", behind, after)
		}
	}
	if b.Len() != 6 {
		t.Error("the book has", b.Len())
	}
}
