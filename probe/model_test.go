package probe_test

import (
	"slices"
	"testing"

	"errata/api"
	"errata/book"
	"errata/probe"
)

// model is the chapter's machine, over handles alone: what is asked of an error
// it takes from its spec.
type model struct {
	b       *book.Book
	x       int
	flag    bool
	pushed  []int
	catches []int
	outs    []api.Out
}

// play is what a program comes to.
func (m *model) play(code []api.Op) (end, steps int) {
	for at := 0; ; {
		switch {
		case at == len(code):
			return api.EndHalt, steps
		case steps == 10000:
			return api.EndSteps, steps
		}
		steps++
		op := code[at]
		if op.Code == api.OpHalt {
			return api.EndHalt, steps
		}
		out, tells := m.ask(op)
		out.At = at
		if tells || out.Panic.Sort != 0 {
			m.outs = append(m.outs, out)
		}
		if out.Panic.Sort == 0 {
			at = m.move(op, at)
			continue
		}
		if len(m.catches) == 0 {
			return api.EndPanic, steps
		}
		at = m.catches[len(m.catches)-1]
		m.catches = m.catches[:len(m.catches)-1]
	}
}

// is is whether x has a kind's type; of 0, which is no kind, whether there is no
// error.
func (m *model) is(kind uint8) bool { return specOf(m.b, m.x).Kind == kind }

// ask is what an op tells, or the panic in it.
func (m *model) ask(op api.Op) (out api.Out, tells bool) {
	must := func(is bool) {
		if !is {
			out.Panic = runtime
		}
	}
	switch op.Code {
	case api.OpKind:
		m.flag = m.is(op.What)
	case api.OpFace:
		m.flag = holds(m.b, m.x, op.What)
	case api.OpNil:
		m.flag = m.x == 0
	case api.OpSame:
		c := compared(m.b, m.x, op.H)
		if c == api.Panics {
			return api.Out{Panic: runtime}, true
		}
		m.flag = c == api.Same
	case api.OpMustKind:
		must(m.is(op.What))
		return out, false
	case api.OpMustFace:
		must(holds(m.b, m.x, op.What))
		return out, false
	case api.OpCall:
		out.Value, out.Panic = toldBy(m.b, m.x, op.What, op.H, op.N)
		return out, true
	case api.OpPart:
		face := op.What
		if face != api.FaceOne && face != api.FaceMany {
			face = api.FaceOne
			if holds(m.b, m.x, api.FaceMany) {
				face = api.FaceMany
			}
		}
		_, panics := unwraps(m.b, m.x)
		must(holds(m.b, m.x, face) && !panics)
		return out, false
	case api.OpPanic:
		out.Panic = api.Panic{Sort: api.OwnPanic, Handle: m.x}
		must(m.x != 0)
		return out, false
	default:
		return out, false
	}
	return api.Out{Flag: m.flag}, true
}

// move does what an op does to the machine, behind what it tells, and is where
// it goes on.
func (m *model) move(op api.Op, at int) int {
	switch op.Code {
	case api.OpLoad:
		m.x = op.H
	case api.OpPart:
		hs, _ := unwraps(m.b, m.x)
		m.x = 0
		if op.N >= 0 && op.N < len(hs) {
			m.x = hs[op.N]
		}
	case api.OpPush:
		if len(m.pushed) < 64 {
			m.pushed = append(m.pushed, m.x)
		}
	case api.OpPop:
		m.x = 0
		if n := len(m.pushed); n > 0 {
			m.x = m.pushed[n-1]
			m.pushed = m.pushed[:n-1]
		}
	case api.OpCatch:
		m.catches = append(m.catches, op.N)
	case api.OpDone:
		m.catches = m.catches[:max(len(m.catches)-1, 0)]
	case api.OpJump:
		return op.N
	case api.OpIf:
		if m.flag {
			return op.N
		}
	case api.OpSwitch:
		for _, c := range op.Cases {
			if c.Face == 0 && m.is(c.Kind) || c.Face != 0 && holds(m.b, m.x, c.Face) {
				return c.To
			}
		}
		return op.N
	}
	return at + 1
}

// op is an op that may be, in a program of so many over a book: H, N and What
// may be anything where they are not looked at.
func (d *dice) op(b *book.Book, ops int) api.Op {
	handle, place := func() int { return d.below(b.Len() + 1) }, func() int { return d.below(ops + 1) }
	kind, face := func() uint8 { return uint8(1 + d.below(26)) }, func() uint8 { return uint8(1 + d.below(19)) }
	op := api.Op{Code: uint8(1 + d.below(20)), What: uint8(d.below(256)), H: d.below(9999) - 5000, N: d.below(9999) - 5000}
	switch op.Code {
	case api.OpLoad, 19:
		op.Code, op.H = api.OpLoad, handle()
	case api.OpPart, 20:
		op.Code, op.What, op.N = api.OpPart, face(), d.below(4)-1
	case api.OpKind, api.OpMustKind:
		op.What = kind()
	case api.OpFace, api.OpMustFace:
		op.What = face()
	case api.OpCall:
		op.What, op.N = face(), d.below(4)-1
		if op.What == api.FaceJudge {
			op.H = handle()
		}
	case api.OpSame:
		op.H = handle()
	case api.OpJump, api.OpIf, api.OpCatch:
		op.N = place()
	case api.OpSwitch:
		op.N = place()
		for range d.below(5) {
			op.Cases = append(op.Cases, [...]api.Clause{{Kind: kind()}, {Face: face()}, {}}[d.below(3)])
			op.Cases[len(op.Cases)-1].To = place()
		}
	}
	return op
}

// program is one that begins with an error, and has many catches, lest it end
// soon; and half of what is compared is compared with what was loaded ahead of it.
func (d *dice) program(b *book.Book) []api.Op {
	n := 5 + d.below(40)
	code := []api.Op{load(d.below(b.Len() + 1))}
	loaded := code[0].H
	for len(code) < n {
		op := d.op(b, n)
		switch op.Code {
		case api.OpHalt:
			if d.below(4) > 0 {
				op = catch(d.below(n + 1))
			}
		case api.OpLoad:
			loaded = op.H
		case api.OpSame:
			if d.below(2) > 0 {
				op.H = loaded
			}
		}
		code = append(code, op)
	}
	return code
}

// P8.1, P8.2, P8.4: random programs, held against the model; each once more,
// which tells the same.
func TestModel(t *testing.T) {
	b := all(t)
	var d dice
	var ends [4]int
	var panics [19]int
	for range 5000 {
		code := d.program(b)
		if at, e := probe.Check(b, code); at != 0 || e != api.OK {
			t.Fatalf("Check(%+v): %d, %d", code, at, e)
		}
		m := model{b: b}
		end, steps := m.play(code)
		for range 2 {
			plays(t, b, code, m.outs, end, steps)
		}
		if t.Failed() {
			t.FailNow()
		}
		ends[end]++
		for _, out := range m.outs {
			if out.Panic.Sort != 0 {
				panics[code[out.At].Code]++
			}
		}
	}
	if slices.Contains(ends[1:], 0) {
		t.Error("ends:", ends)
	}
	for code, n := range panics {
		if (n > 0) != slices.Contains([]int{4, 5, 6, 7, 9, 17}, code) {
			t.Errorf("%d panics in ops %d", n, code)
		}
	}
}

// P8.3, P8.4: of all errors, all faces and kinds.
func TestAll(t *testing.T) {
	b := all(t)
	for h := 0; h <= b.Len(); h++ {
		for face := uint8(1); face <= 19; face++ {
			if is, e := probe.Holds(b, h, face); is != holds(b, h, face) || e != api.OK {
				t.Errorf("Holds(%d, %d): %t, %d", h, face, is, e)
			}
			for n := -1; n <= 2; n++ {
				target := (h*7 + n*31 + int(face)) % b.Len()
				want, wantPanic := toldBy(b, h, face, max(target, 0), n)
				if v, p, e := probe.Call(b, h, face, max(target, 0), n); !alike(v, want) || p != wantPanic || e != api.OK {
					t.Errorf("Call(%d, %d, %d, %d): %+v, %+v, %d; want %+v, %+v", h, face, target, n, v, p, e, want, wantPanic)
				}
			}
		}
		for kind := uint8(1); kind <= 26; kind++ {
			if is, e := probe.Is(b, h, kind); is != (specOf(b, h).Kind == kind) || e != api.OK {
				t.Errorf("Is(%d, %d): %t, %d", h, kind, is, e)
			}
		}
	}
}

// P8.3: an Echo judges each error of the book.
func TestJudge(t *testing.T) {
	b := all(t)
	var told [3]int
	for h := range b.Each() {
		if specOf(b, h).Kind != api.KindEcho {
			continue
		}
		for target := 0; target <= b.Len(); target++ {
			want, wantPanic := judged(b, specOf(b, h), target)
			v, p, e := probe.Call(b, h, api.FaceJudge, target, 0)
			if !alike(v, want) || p != wantPanic || e != api.OK {
				t.Errorf("Call(%d, Judge, %d): %+v, %+v, %d; want %+v, %+v", h, target, v, p, e, want, wantPanic)
			}
			if v.Kind == api.ValBool {
				told[v.Int]++
			} else {
				told[2]++
			}
		}
	}
	if slices.Contains(told[:], 0) {
		t.Error("told:", told)
	}
}
