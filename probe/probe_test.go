package probe_test

import (
	"slices"
	"testing"

	"errata/api"
	"errata/probe"
)

// The ops, by what they need.

func load(h int) api.Op          { return api.Op{Code: api.OpLoad, H: h} }
func isKind(kind uint8) api.Op   { return api.Op{Code: api.OpKind, What: kind} }
func isFace(face uint8) api.Op   { return api.Op{Code: api.OpFace, What: face} }
func mustKind(kind uint8) api.Op { return api.Op{Code: api.OpMustKind, What: kind} }
func mustFace(face uint8) api.Op { return api.Op{Code: api.OpMustFace, What: face} }
func call(face uint8) api.Op     { return api.Op{Code: api.OpCall, What: face} }
func same(h int) api.Op          { return api.Op{Code: api.OpSame, H: h} }
func jump(to int) api.Op         { return api.Op{Code: api.OpJump, N: to} }
func goIf(to int) api.Op         { return api.Op{Code: api.OpIf, N: to} }
func catch(to int) api.Op        { return api.Op{Code: api.OpCatch, N: to} }

func part(face uint8, n int) api.Op { return api.Op{Code: api.OpPart, What: face, N: n} }

func choose(n int, cases ...api.Clause) api.Op {
	return api.Op{Code: api.OpSwitch, N: n, Cases: cases}
}

var (
	isNil  = api.Op{Code: api.OpNil}
	push   = api.Op{Code: api.OpPush}
	pop    = api.Op{Code: api.OpPop}
	done   = api.Op{Code: api.OpDone}
	giveUp = api.Op{Code: api.OpPanic}
	halt   = api.Op{Code: api.OpHalt}
)

// times is an op, so often.
func times(n int, op api.Op) []api.Op { return slices.Repeat([]api.Op{op}, n) }

// program is some pieces, one behind the other.
func program(pieces ...[]api.Op) []api.Op { return slices.Concat(pieces...) }

// The outs.

func flag(at int, is bool) api.Out         { return api.Out{At: at, Flag: is} }
func says(at int, v api.Value) api.Out     { return api.Out{At: at, Value: v} }
func panicked(at int, p api.Panic) api.Out { return api.Out{At: at, Panic: p} }

// with is an own panic with an error.
func with(h int) api.Panic { return api.Panic{Sort: api.OwnPanic, Handle: h} }

// A part of a test: a program and what it comes to.
type play struct {
	code       []api.Op
	outs       []api.Out
	end, steps int
}

// The chapter's examples, in their order.
func TestExamples(t *testing.T) {
	b := five(t)
	for _, x := range []play{
		{[]api.Op{load(1), isFace(api.FaceGrader), mustKind(api.KindNote)}, []api.Out{flag(1, true), panicked(2, runtime)}, api.EndPanic, 3},
		{[]api.Op{load(2), isNil, call(api.FaceError)}, []api.Out{flag(1, false), panicked(2, runtime)}, api.EndPanic, 3},
		{[]api.Op{catch(4), load(2), isNil, call(api.FaceError), halt}, []api.Out{flag(2, false), panicked(3, runtime)}, api.EndHalt, 5},
		{[]api.Op{load(3), part(api.FaceOne, 0), same(1), call(api.FaceCoder)}, []api.Out{flag(2, true), panicked(3, runtime)}, api.EndPanic, 4},
		{[]api.Op{load(4), same(4)}, []api.Out{panicked(1, runtime)}, api.EndPanic, 2},
		{[]api.Op{load(1), same(4)}, []api.Out{flag(1, false)}, api.EndHalt, 2},
		{[]api.Op{load(5), {Code: api.OpCall, What: api.FaceJudge, H: 1}}, []api.Out{panicked(1, own("e"))}, api.EndPanic, 2},
		{[]api.Op{load(1), choose(5, api.Clause{Face: api.FaceCoder, To: 4}, api.Clause{Kind: api.KindCode, To: 3}), isNil, isNil, halt, isNil}, []api.Out{flag(3, false)}, api.EndHalt, 4},
		{[]api.Op{load(3), giveUp}, []api.Out{panicked(1, with(3))}, api.EndPanic, 2},
		{[]api.Op{pop, giveUp}, []api.Out{panicked(1, runtime)}, api.EndPanic, 2},
		{[]api.Op{jump(0)}, nil, api.EndSteps, 10000},
	} {
		plays(t, b, x.code, x.outs, x.end, x.steps)
	}
	if at, e := probe.Check(b, []api.Op{jump(2)}); at != 0 || e != api.ErrOp {
		t.Errorf("Check of a jump to 2: %d, %d", at, e)
	}
	outs, end, steps, e := probe.Run(b, []api.Op{jump(2)})
	wrong(t, "Run of a jump to 2", api.ErrOp, e, outs, end, steps)
}

// The numbers of the chapter.
func TestNumbers(t *testing.T) {
	codes := []uint8{api.OpLoad, api.OpKind, api.OpFace, api.OpMustKind, api.OpMustFace, api.OpCall, api.OpSame, api.OpNil, api.OpPart,
		api.OpPush, api.OpPop, api.OpJump, api.OpIf, api.OpCatch, api.OpDone, api.OpSwitch, api.OpPanic, api.OpHalt}
	for i, code := range codes {
		if int(code) != i+1 {
			t.Error("the op", i+1, "is", code)
		}
	}
	if api.EndHalt != 1 || api.EndPanic != 2 || api.EndSteps != 3 || api.ErrOp != 80 || api.MaxSteps != 10000 {
		t.Error("the ends, the error, the limit")
	}
}

// P8.2: how a program ends, and behind how many ops.
func TestEnds(t *testing.T) {
	b := five(t)
	late := []api.Out{panicked(9999, runtime)}
	// Three ops that take four steps.
	again, toldAgain := []api.Op{goIf(3), isNil, jump(0)}, []api.Out{flag(1, true)}
	for _, x := range []play{
		{nil, nil, api.EndHalt, 0},
		{[]api.Op{}, nil, api.EndHalt, 0},
		{[]api.Op{halt, giveUp}, nil, api.EndHalt, 1},
		{[]api.Op{jump(1)}, nil, api.EndHalt, 1},
		{[]api.Op{jump(3), giveUp, giveUp}, nil, api.EndHalt, 1},
		{times(10000, push), nil, api.EndHalt, 10000},
		// The last op that may be done ends the run, or goes somewhere else.
		{program(times(9999, push), []api.Op{halt}), nil, api.EndHalt, 10000},
		{program(times(9999, push), []api.Op{giveUp}), late, api.EndPanic, 10000},
		{program(times(9999, push), []api.Op{jump(0)}), nil, api.EndSteps, 10000},
		{program(times(9999, push), []api.Op{jump(10000)}), nil, api.EndHalt, 10000},
		{program([]api.Op{catch(0)}, times(9998, push), []api.Op{giveUp}), late, api.EndSteps, 10000},
		{program([]api.Op{catch(10000)}, times(9998, push), []api.Op{giveUp}), late, api.EndHalt, 10000},
		{[]api.Op{push, jump(0)}, nil, api.EndSteps, 10000},
		// A halt is an op like others.
		{program(again, times(9995, push), []api.Op{halt}), toldAgain, api.EndHalt, 10000},
		{program(again, times(9996, push), []api.Op{halt}), toldAgain, api.EndSteps, 10000},
		{program(again, times(9996, push)), toldAgain, api.EndHalt, 10000},
	} {
		plays(t, b, x.code, x.outs, x.end, x.steps)
	}
}

// Words: what was pushed comes back in reverse, with its handle.
func TestPushed(t *testing.T) {
	b := five(t)
	plays(t, b, []api.Op{load(3), push, load(1), push, load(5), pop, call(api.FaceError), pop, catch(11), giveUp, halt, pop, isNil, giveUp},
		[]api.Out{says(6, text("code 7")), panicked(9, with(3)), flag(12, true), panicked(13, runtime)}, api.EndPanic, 13)
	// No error is pushed as an error is.
	plays(t, b, []api.Op{load(3), push, pop, push, load(0), push, load(1), pop, isNil, pop, isNil, giveUp},
		[]api.Out{flag(8, true), flag(10, false), panicked(11, with(3))}, api.EndPanic, 12)
}

// At most 64 are pushed; what comes too late is dropped, until one was taken.
func TestPushedTooMany(t *testing.T) {
	b := five(t)
	for n := range 70 {
		code := program([]api.Op{load(3)}, times(n, push), []api.Op{load(1), push, pop, isKind(api.KindCode)}, slices.Repeat([]api.Op{pop, isNil}, 69))
		outs, _, _, _ := probe.Run(b, code)
		if outs[0].Flag != (n < 64) {
			t.Errorf("behind %d the next one was pushed: %t", n, outs[0].Flag)
		}
		if left := slices.IndexFunc(outs[1:], func(o api.Out) bool { return o.Flag }); left != min(n+1, 64)-1 {
			t.Errorf("behind %d the others are %d", n, left)
		}
	}
	full := program([]api.Op{load(3)}, times(70, push), []api.Op{pop, load(1), push, load(0), pop, giveUp})
	plays(t, b, full, []api.Out{panicked(len(full)-1, with(1))}, api.EndPanic, len(full))
}

// Words: where a panic is caught the last catch is taken away, and x, the flag
// and what was pushed stay.
func TestCatches(t *testing.T) {
	b := five(t)
	for _, x := range []play{
		{[]api.Op{load(3), push, load(1), isKind(1), catch(9), catch(7), giveUp, giveUp, halt, goIf(11), halt, isKind(1), pop, giveUp},
			[]api.Out{flag(3, true), panicked(6, with(1)), panicked(7, with(1)), flag(11, true), panicked(13, with(3))}, api.EndPanic, 12},
		// Done takes the last one away, and may be done without any.
		{[]api.Op{done, catch(6), catch(5), done, giveUp, halt, isNil}, []api.Out{panicked(4, runtime), flag(6, true)}, api.EndHalt, 6},
		{[]api.Op{catch(3), done, giveUp, halt}, []api.Out{panicked(2, runtime)}, api.EndPanic, 3},
		{[]api.Op{catch(3), done, done, giveUp}, []api.Out{panicked(3, runtime)}, api.EndPanic, 4},
		// It goes on at the end, at the op itself, at the catch again and again.
		{[]api.Op{catch(2), giveUp}, []api.Out{panicked(1, runtime)}, api.EndHalt, 2},
		{[]api.Op{catch(1), giveUp}, []api.Out{panicked(1, runtime), panicked(1, runtime)}, api.EndPanic, 3},
		{[]api.Op{catch(0), giveUp}, slices.Repeat([]api.Out{panicked(1, runtime)}, 5000), api.EndSteps, 10000},
		{program(times(9000, catch(9000)), []api.Op{giveUp}), slices.Repeat([]api.Out{panicked(9000, runtime)}, 1000), api.EndSteps, 10000},
		{program(times(999, catch(999)), []api.Op{giveUp}), slices.Repeat([]api.Out{panicked(999, runtime)}, 1000), api.EndPanic, 1999},
	} {
		plays(t, b, x.code, x.outs, x.end, x.steps)
	}
}

// Ops: what each op that may panic leaves as it was.
func TestWhatPanicsChangesNothing(t *testing.T) {
	b := five(t)
	bare := put(t, b, api.Spec{Kind: api.KindFull}) // a One whose Unwrap panics
	for _, x := range []struct {
		h  int
		op api.Op
		p  api.Panic
	}{
		{1, mustKind(api.KindNote), runtime}, {2, mustKind(api.KindCode), runtime}, {0, mustKind(api.KindPlain), runtime},
		{1, mustFace(api.FaceCoder), runtime}, {0, mustFace(api.FaceAny), runtime}, {2, mustFace(api.FaceNobody), runtime},
		{1, call(api.FaceOne), runtime}, {2, call(api.FaceError), runtime}, {bare, call(api.FaceOne), runtime}, {0, call(api.FaceAny), runtime},
		{4, same(4), runtime}, {1, part(api.FaceOne, 0), runtime}, {3, part(api.FaceMany, 0), runtime}, {bare, part(api.FaceOne, 0), runtime},
		{0, part(api.FaceAny, 0), runtime}, {5, api.Op{Code: api.OpCall, What: api.FaceJudge}, own("e")}, {2, giveUp, with(2)}, {0, giveUp, runtime},
	} {
		for _, is := range []api.Op{isNil, isFace(api.FaceAny)} {
			set := (x.h == 0) == (is.Code == api.OpNil)
			begin := []api.Op{load(3), push, load(x.h), is, catch(6), x.op}
			outs := []api.Out{flag(3, set), panicked(5, x.p)}
			plays(t, b, program(begin, []api.Op{goIf(8), halt}), outs, api.EndHalt, 7+one(!set))
			left := with(x.h)
			if x.h == 0 {
				left = runtime
			}
			outs = append(outs, panicked(7, left), flag(9, true), flag(11, true))
			plays(t, b, program(begin, []api.Op{catch(8), giveUp, pop, isKind(api.KindWrap), pop, isNil}), outs, api.EndHalt, 12)
		}
	}
}

// one is 1, if something is so; else 0.
func one(is bool) int {
	if is {
		return 1
	}
	return 0
}
