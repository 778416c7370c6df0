package probe_test

import (
	"slices"
	"strings"
	"testing"

	"errata/api"
	"errata/book"
	"errata/probe"
)

// called is a call of the method of a face, and what it must tell.
type called struct {
	s         api.Spec
	face      uint8
	target, n int
	v         api.Value
	p         api.Panic
}

// The table of what a call tells: of each face, and what it panics with.
var calls = []called{
	{s: api.Spec{Kind: 1, Number: -9}, face: 1, v: text("code -9")},
	{s: api.Spec{Kind: 2, Text: "\xff"}, face: 1, v: text("\xff")},
	{s: api.Spec{Kind: 2}, face: 1, v: text("")},
	{s: api.Spec{Kind: 7, Text: "x", Flag: true}, face: 1, p: own("x")},
	{s: api.Spec{Kind: 24, Text: "", Flag: true}, face: 1, p: own("")},
	{s: api.Spec{Kind: 9, Nil: true}, face: 1, p: runtime},
	{s: api.Spec{Kind: 10, Nil: true}, face: 1, v: text("quiet")},
	{s: api.Spec{Kind: 1, Number: 128}, face: 2, v: number(-128)},
	{s: api.Spec{Kind: 25, Number: 300}, face: 2, v: number(44)},
	{s: api.Spec{Kind: 11, Number: -32768}, face: 3, v: number(-32768)},
	{s: api.Spec{Kind: 1}, face: 3, p: runtime},
	{s: api.Spec{Kind: 3, Re: minus0}, face: 4, v: api.Value{Kind: api.ValFloat, Re: minus0}},
	{s: api.Spec{Kind: 19, Re: nan}, face: 4, v: api.Value{Kind: api.ValFloat, Re: nan}},
	{s: api.Spec{Kind: 4, Re: 1, Im: -2}, face: 5, v: api.Value{Kind: api.ValComplex, Re: 1, Im: -2}},
	{s: api.Spec{Kind: 10, Flag: true}, face: 6, v: boolean(true)},
	{s: api.Spec{Kind: 10, Nil: true}, face: 6, v: boolean(false)},
	{s: api.Spec{Kind: 17}, face: 6, v: boolean(false)},
	{s: api.Spec{Kind: 18, Number: -1}, face: 7, v: number(-1)},
	{s: api.Spec{Kind: 12, Items: []string{"a", "", "b"}}, face: 8, v: list(text("a"), text(""), text("b"))},
	{s: api.Spec{Kind: 12}, face: 8, v: list()},
	{s: api.Spec{Kind: 14, Parts: []int{1}}, face: 9, v: boolean(true)},
	{s: api.Spec{Kind: 15, Parts: []int{2}}, face: 9, v: boolean(true)},
	{s: api.Spec{Kind: 14, Parts: []int{0}}, face: 9, v: boolean(false)},
	{s: api.Spec{Kind: 14, Nil: true}, face: 9, p: runtime},
	{s: api.Spec{Kind: 25}, face: 9, p: runtime},
	{s: api.Spec{Kind: 25, Parts: []int{3}}, face: 9, v: boolean(true)},
	{s: api.Spec{Kind: 16, Parts: []int{0, 1, 0}}, face: 10, v: number(3)},
	{s: api.Spec{Kind: 16}, face: 10, v: number(0)},
	{s: api.Spec{Kind: 26, Items: []string{"n"}, Parts: []int{0}}, face: 10, v: number(1)},
	{s: api.Spec{Kind: 16, Nil: true}, face: 10, p: runtime},
	{s: api.Spec{Kind: 16}, face: 9, p: runtime},
	{s: api.Spec{Kind: 14}, face: 10, p: runtime},
	{s: api.Spec{Kind: 21, Text: "cod"}, face: 11, target: 1, v: boolean(true)},
	{s: api.Spec{Kind: 21, Text: "ode"}, face: 11, target: 1, v: boolean(false)},
	{s: api.Spec{Kind: 21}, face: 11, target: 2, p: runtime},
	{s: api.Spec{Kind: 21}, face: 11, p: runtime},
	{s: api.Spec{Kind: 21, Text: "h", Flag: true}, face: 11, p: own("h")},
	{s: api.Spec{Kind: 21, Nil: true}, face: 11, target: 1, p: runtime},
	{s: api.Spec{Kind: 22, Text: "g", Number: -5}, face: 12, v: list(boolean(true), number(-5))},
	{s: api.Spec{Kind: 22, Number: 6}, face: 12, n: 1, v: list(boolean(true), number(6))},
	{s: api.Spec{Kind: 22, Number: 6}, face: 12, n: 2, v: list(boolean(false), number(0))},
	{s: api.Spec{Kind: 22, Number: 6}, face: 12, n: -1, v: list(boolean(false), number(0))},
	{s: api.Spec{Kind: 22, Number: 6}, face: 12, n: 1 << 32, v: list(boolean(false), number(0))},
	{s: api.Spec{Kind: 22, Nil: true}, face: 12, p: runtime},
	{s: api.Spec{Kind: 22, Nil: true}, face: 12, n: 2, p: runtime},
	{s: api.Spec{Kind: 2}, face: 13, v: number(2)},
	{s: api.Spec{Kind: 19}, face: 13, p: runtime},
	{s: api.Spec{Kind: 6, Items: []string{"b", "a", "b"}}, face: 14, v: number(2)},
	{s: api.Spec{Kind: 6, Nil: true}, face: 14, v: number(0)},
	{s: api.Spec{Kind: 17, Flag: true, Parts: []int{1}}, face: 15, v: list(text("code 7"), boolean(true))},
	{s: api.Spec{Kind: 10, Nil: true}, face: 15, v: list(text("quiet"), boolean(false))},
	{s: api.Spec{Kind: 17, Flag: true}, face: 15, p: runtime},
	{s: api.Spec{Kind: 25, Number: 9, Parts: []int{3}}, face: 16, v: list(boolean(true), number(9))},
	{s: api.Spec{Kind: 25, Number: 9}, face: 16, p: runtime},
	{s: api.Spec{Kind: 14, Parts: []int{1}}, face: 16, p: runtime},
	{s: api.Spec{Kind: 19}, face: 17, p: runtime},
	{s: api.Spec{Kind: 1}, face: 18, p: runtime},
	{s: api.Spec{Kind: 9, Nil: true}, face: 19},
	{s: api.Spec{Kind: 24, Flag: true}, face: 19},
}

// Ops, P8.3: what each call tells, by the op and by Call.
func TestCalls(t *testing.T) {
	b := five(t)
	for _, c := range calls {
		h := put(t, b, c.s)
		for range 2 {
			if v, p, e := probe.Call(b, h, c.face, c.target, c.n); !alike(v, c.v) || p != c.p || e != api.OK {
				t.Errorf("Call of face %d of %+v: %+v, %+v, %d; want %+v, %+v", c.face, c.s, v, p, e, c.v, c.p)
			}
		}
		end := api.EndHalt
		if c.p.Sort != api.NoPanic {
			end = api.EndPanic
		}
		plays(t, b, []api.Op{load(h), {Code: api.OpCall, What: c.face, H: c.target, N: c.n}}, []api.Out{{At: 1, Value: c.v, Panic: c.p}}, end, 2)
	}
	for face := uint8(1); face <= 19; face++ {
		if v, p, e := probe.Call(b, 0, face, 1, 0); !alike(v, api.Value{}) || p != runtime || e != api.OK {
			t.Errorf("Call of face %d of no error: %+v, %+v, %d", face, v, p, e)
		}
	}
}

// An Error's text is told, of any length.
func TestLongText(t *testing.T) {
	b := book.New()
	word := strings.Repeat("x", api.MaxWord)
	parts := slices.Repeat([]int{put(t, b, api.Spec{Kind: 2, Text: word})}, 15)
	h := put(t, b, api.Spec{Kind: 16, Parts: parts})
	want := strings.TrimSuffix(strings.Repeat(word+"\n", 15), "\n")
	if v, p, e := probe.Call(b, h, api.FaceError, 0, 0); !alike(v, text(want)) || p != (api.Panic{}) || e != api.OK {
		t.Errorf("a text of %d bytes, %+v, %d", len(v.Text), p, e)
	}
}

// Ops: which part is gone to, and the handle that x has behind it; what is no
// error, or no part, is told as no error.
func TestParts(t *testing.T) {
	b := five(t)
	twin := put(t, b, api.Spec{Kind: 1, Number: 7}) // alike to 1, and another
	join := put(t, b, api.Spec{Kind: 16, Parts: []int{1, 0, twin, 2, 4}})
	opaque := put(t, b, api.Spec{Kind: 26, Items: []string{"n"}, Parts: []int{twin, 1}})
	about := put(t, b, api.Spec{Kind: 14, Parts: []int{twin}})
	full := put(t, b, api.Spec{Kind: 25, Parts: []int{about}})
	hollow := put(t, b, api.Spec{Kind: 25, Parts: []int{put(t, b, api.Spec{Kind: 14})}})
	over := put(t, b, api.Spec{Kind: 15, Parts: []int{join}})
	for _, x := range []struct {
		h    int
		face uint8
		want []int // the handles of the parts from 0 on, and of one behind them
	}{
		{join, api.FaceMany, []int{1, 0, twin, 2, 4, 0}}, {opaque, api.FaceMany, []int{twin, 1, 0}},
		{about, api.FaceOne, []int{twin, 0}}, {full, api.FaceOne, []int{twin, 0}}, {hollow, api.FaceOne, []int{0, 0}}, {over, api.FaceOne, []int{join, 0}},
	} {
		for face := uint8(1); face <= 19; face++ {
			if face != x.face && (face == api.FaceOne || face == api.FaceMany) {
				plays(t, b, []api.Op{load(x.h), part(face, 0)}, []api.Out{panicked(1, runtime)}, api.EndPanic, 2)
				continue
			}
			for n := -2; n < len(x.want)+2; n++ {
				p := runtime
				if n >= 0 && n < len(x.want) && x.want[n] != 0 {
					p = with(x.want[n])
				}
				plays(t, b, []api.Op{load(x.h), part(face, n), giveUp}, []api.Out{panicked(2, p)}, api.EndPanic, 3)
			}
		}
	}
	for _, h := range []int{0, 1, 2, 4, 5} {
		for face := uint8(1); face <= 19; face++ {
			plays(t, b, []api.Op{load(h), part(face, 0)}, []api.Out{panicked(1, runtime)}, api.EndPanic, 2)
		}
	}
	// Two steps down, and back by what was pushed.
	plays(t, b, []api.Op{load(over), push, part(api.FaceAny, 0), push, part(api.FaceAny, 2), same(twin), same(1), pop, same(join), pop, same(over), part(api.FaceOne, 1<<32), isNil},
		[]api.Out{flag(5, true), flag(6, true), flag(8, true), flag(10, true), flag(12, true)}, api.EndHalt, 13)
}

// Ops: the first clause that holds, or N.
func TestSwitch(t *testing.T) {
	b := five(t)
	for _, x := range []struct {
		h     int
		cases []api.Clause
		want  int
	}{
		{1, nil, 9}, {0, nil, 9},
		{1, []api.Clause{{Kind: 2, To: 3}, {Kind: 1, To: 4}, {Kind: 1, To: 5}}, 4},
		{1, []api.Clause{{Face: api.FaceAny, To: 5}, {Kind: 1, To: 4}}, 5},
		{1, []api.Clause{{To: 3}, {Face: api.FaceNobody, To: 4}, {Kind: 26, To: 5}}, 9},
		{2, []api.Clause{{To: 3}, {Kind: 9, To: 4}}, 4},
		{0, []api.Clause{{Kind: 9, To: 3}, {Face: api.FaceAny, To: 4}, {Face: api.FaceError, To: 5}, {To: 6}}, 6},
		{0, []api.Clause{{Kind: 9, To: 3}}, 9},
		{3, []api.Clause{{Face: api.FaceMany, To: 3}, {Face: api.FaceOne, To: 10}}, 10},
	} {
		code := program([]api.Op{load(x.h), choose(9, x.cases...)}, times(8, isNil))
		var outs []api.Out
		for at := x.want; at < len(code); at++ {
			outs = append(outs, flag(at, x.h == 0))
		}
		plays(t, b, code, outs, api.EndHalt, 2+len(outs))
	}
	// Of each error of a book, each kind and each face alone.
	b = all(t)
	for h := 0; h <= b.Len(); h++ {
		for n := uint8(1); n <= 26; n++ {
			goes := []api.Out{flag(3, h == 0)}
			stays := append([]api.Out{flag(2, h == 0)}, goes...)
			for _, c := range []struct {
				clause api.Clause
				is     bool
			}{{api.Clause{Kind: n, To: 3}, specOf(b, h).Kind == n}, {api.Clause{Face: min(n, 19), To: 3}, holds(b, h, min(n, 19))}} {
				if c.is {
					plays(t, b, []api.Op{load(h), choose(2, c.clause), isNil, isNil}, goes, api.EndHalt, 3)
				} else {
					plays(t, b, []api.Op{load(h), choose(2, c.clause), isNil, isNil}, stays, api.EndHalt, 4)
				}
			}
		}
	}
}

// Ops: comparing, of all pairs of some errors; where it panics the flag stays.
func TestSame(t *testing.T) {
	b := all(t)
	var hs []int
	for h := 0; h <= b.Len(); h++ {
		if h < 60 || h%11 == 0 {
			hs = append(hs, h)
		}
	}
	for _, x := range hs {
		for _, y := range hs {
			for _, before := range []bool{false, true} {
				set := isNil
				if before != (x == 0) {
					set = isFace(api.FaceAny)
				}
				code := []api.Op{load(x), set, catch(4), same(y), goIf(6), halt, isNil}
				outs := []api.Out{flag(1, before)}
				is := before
				if c := compared(b, x, y); c == api.Panics {
					outs = append(outs, panicked(3, runtime))
				} else {
					is = c == api.Same
					outs = append(outs, flag(3, is))
				}
				if is {
					outs = append(outs, flag(6, x == 0))
				}
				plays(t, b, code, outs, api.EndHalt, 6)
			}
		}
	}
}

// Ops: it panics with x, whatever x is; a Note, too, is told by its handle alone.
func TestGiveUp(t *testing.T) {
	b := all(t)
	for h := range b.Each() {
		plays(t, b, []api.Op{load(h), giveUp, halt}, []api.Out{panicked(1, with(h))}, api.EndPanic, 2)
	}
	plays(t, b, []api.Op{giveUp}, []api.Out{panicked(0, runtime)}, api.EndPanic, 1)
	plays(t, b, []api.Op{load(1), load(0), giveUp}, []api.Out{panicked(2, runtime)}, api.EndPanic, 3)
}

// Ops: a jump goes anywhere, one by the flag just if it is true; at first it is
// false, and there is no error.
func TestJumps(t *testing.T) {
	b := five(t)
	for _, x := range []play{
		{[]api.Op{goIf(2), halt, giveUp}, nil, api.EndHalt, 2},
		{[]api.Op{isNil, goIf(3), giveUp, halt}, []api.Out{flag(0, true)}, api.EndHalt, 3},
		{[]api.Op{isNil, load(1), isNil, goIf(5), halt, giveUp}, []api.Out{flag(0, true), flag(2, false)}, api.EndHalt, 5},
		{[]api.Op{isNil, load(1), push, pop, catch(6), done, goIf(8), giveUp}, []api.Out{flag(0, true)}, api.EndHalt, 7},
		{[]api.Op{jump(3), giveUp, halt, jump(2)}, nil, api.EndHalt, 3},
		{[]api.Op{pop, isNil}, []api.Out{flag(1, true)}, api.EndHalt, 2},
		{[]api.Op{load(1), pop, isNil}, []api.Out{flag(2, true)}, api.EndHalt, 3},
		{[]api.Op{load(1), load(0), isNil}, []api.Out{flag(2, true)}, api.EndHalt, 3},
	} {
		plays(t, b, x.code, x.outs, x.end, x.steps)
	}
}
