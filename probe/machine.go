package probe

import (
	"errata/api"
	"errata/book"
	"errata/compare"
	"errata/faces"
	"errata/kinds"
)

// maxPushed is how many errors are pushed at most.
const maxPushed = 64

// named is an error of a book, or no error, with its handle.
type named struct {
	err    error
	handle int
}

// machine is a program on its way, over a book.
type machine struct {
	book    *book.Book
	code    []api.Op
	here    int // the op that is done
	next    int // where it goes on
	x       named
	flag    bool
	pushed  []named
	catches []int
	told    []api.Out
}

// run does ops until it ends: how, and behind how many of them.
func (m *machine) run() (end, steps int) {
	for m.next < len(m.code) {
		if steps == api.MaxSteps {
			return api.EndSteps, steps
		}
		m.here = m.next
		m.next++
		steps++
		op := m.code[m.here]
		if op.Code == api.OpHalt {
			return api.EndHalt, steps
		}
		if p := m.step(op); p.Sort != api.NoPanic && !m.caught(p) {
			return api.EndPanic, steps
		}
	}
	return api.EndHalt, steps
}

// step does an op: the panic in it, if there is one.
func (m *machine) step(op api.Op) (p api.Panic) {
	defer func() {
		if with := recover(); with != nil {
			p = panicOf(with)
		}
	}()
	m.do(op)
	return api.Panic{}
}

// panicOf is how it is told that something gave up with this.
func panicOf(with any) api.Panic {
	switch with := with.(type) {
	case api.Panic:
		return with
	case kinds.Note:
		return api.Panic{Sort: api.OwnPanic, Word: string(with)}
	}
	return api.Panic{Sort: api.RuntimePanic}
}

// caught tells a panic, and is whether there was a catch for it.
func (m *machine) caught(p api.Panic) bool {
	m.tell(api.Out{Panic: p})
	to, is := takeLast(&m.catches)
	m.next = to
	return is
}

// tell adds what the op told.
func (m *machine) tell(out api.Out) {
	out.At = m.here
	m.told = append(m.told, out)
}

// answer sets the flag, and tells it.
func (m *machine) answer(flag bool) {
	m.flag = flag
	m.tell(api.Out{Flag: flag})
}

// do does an op that may be, but for a halt. Where it panics it has changed
// nothing.
func (m *machine) do(op api.Op) {
	switch op.Code {
	case api.OpLoad:
		m.x = m.load(op.H)
	case api.OpKind:
		m.answer(typeOf(op.What).tells(m.x.err))
	case api.OpFace:
		m.answer(m.holds(op.What))
	case api.OpMustKind:
		typeOf(op.What).must(m.x.err)
	case api.OpMustFace:
		m.mustHold(op.What)
	case api.OpCall:
		m.tell(api.Out{Value: m.call(op)})
	case api.OpSame:
		m.answer(m.same(op.H))
	case api.OpNil:
		m.answer(m.x.err == nil)
	case api.OpPart:
		m.x = m.part(op.What, op.N)
	case api.OpPush:
		if len(m.pushed) < maxPushed {
			m.pushed = append(m.pushed, m.x)
		}
	case api.OpPop:
		m.x, _ = takeLast(&m.pushed)
	case api.OpJump:
		m.next = op.N
	case api.OpIf:
		if m.flag {
			m.next = op.N
		}
	case api.OpCatch:
		m.catches = append(m.catches, op.N)
	case api.OpDone:
		takeLast(&m.catches)
	case api.OpSwitch:
		m.next = m.choose(op)
	case api.OpPanic:
		m.giveUp()
	}
}

// takeLast takes the last of a row away, if there is one.
func takeLast[T any](row *[]T) (last T, is bool) {
	end := len(*row) - 1
	if end < 0 {
		return last, false
	}
	last = (*row)[end]
	*row = (*row)[:end]
	return last, true
}

// load is the error of a handle.
func (m *machine) load(h int) named {
	v, _ := m.book.Error(h)
	return named{v, h}
}

// holds is whether x holds a face.
func (m *machine) holds(face uint8) bool {
	is, _ := faces.Holds(m.book, m.x.handle, face)
	return is
}

// mustHold panics anew, where the one-valued assertion of x to a face did.
func (m *machine) mustHold(face uint8) {
	if p, _ := faces.Assert(m.book, m.x.handle, face); p.Sort != api.NoPanic {
		panic(p)
	}
}

// same is whether x is the Same as the error of a handle. It panics anew, where
// comparing them did.
func (m *machine) same(h int) bool {
	outcome, _ := compare.Two(m.book, m.x.handle, h)
	if outcome == api.Panics {
		panic(api.Panic{Sort: api.RuntimePanic})
	}
	return outcome == api.Same
}

// choose is where a switch goes on.
func (m *machine) choose(op api.Op) int {
	kind := kindOf(m.x.err)
	for _, c := range op.Cases {
		// Kind and Face are both 0 in the clause of no error, whose kind is 0, too.
		if c.Face != 0 && m.holds(c.Face) || c.Face == 0 && c.Kind == kind {
			return c.To
		}
	}
	return op.N
}

// giveUp panics with x, by its handle. With no error that is a panic with no
// value, which is the language's own.
func (m *machine) giveUp() {
	if m.x.err == nil {
		panic(nil)
	}
	panic(api.Panic{Sort: api.OwnPanic, Handle: m.x.handle})
}
