package kinds

import (
	"runtime"
	"sync"
	"sync/atomic"
	"testing"

	"errata/api"
)

// caught is what an error's Error gives up with, and its text else.
func caught(e error) (text string, bad any) {
	defer func() { bad = recover() }()
	return e.Error(), nil
}

// P4.5: make is called by the first call of Error alone, and what comes of it
// comes of each later one; Made is whether it was called.
func TestSlowOnce(t *testing.T) {
	for _, x := range []struct {
		text string
		bad  any
	}{{"s", nil}, {"", Note("boom")}, {"", 7}} {
		var calls atomic.Int64
		s := &Slow{make: func() string {
			calls.Add(1)
			if x.bad != nil {
				panic(x.bad)
			}
			return x.text
		}}
		if s.Made() || calls.Load() != 0 {
			t.Error("made ahead of Error")
		}
		for range 3 {
			if text, bad := caught(s); text != x.text || bad != x.bad || !s.Made() || calls.Load() != 1 {
				t.Errorf("%q, %v, %t, %d calls", text, bad, s.Made(), calls.Load())
			}
		}
	}
}

// P4.5: whoever calls, all at once too.
func TestSlowAtOnce(t *testing.T) {
	for _, harsh := range []bool{false, true} {
		var calls atomic.Int64
		answers := answer("s", harsh)
		s := &Slow{make: func() string {
			calls.Add(1)
			runtime.Gosched()
			return answers()
		}}
		var all sync.WaitGroup
		var wrong atomic.Int64
		for range 64 {
			all.Go(func() {
				text, bad := caught(s)
				if !harsh && (text != "s" || bad != nil) || harsh && bad != Note("s") || !s.Made() {
					wrong.Add(1)
				}
			})
		}
		all.Wait()
		if calls.Load() != 1 || wrong.Load() != 0 {
			t.Errorf("%d calls, %d wrong answers", calls.Load(), wrong.Load())
		}
	}
}

// P4.5: a Slow's first caller may be what it is a part of; Make's own does not call.
func TestSlowWithin(t *testing.T) {
	for _, flag := range []bool{false, true} {
		e, no := Make(api.Spec{Kind: api.KindSlow, Text: "s", Flag: flag}, nil)
		if no != api.OK {
			t.Fatal(no)
		}
		s := e.(*Slow)
		if s.Made() {
			t.Error("made by Make")
		}
		w, _ := Make(api.Spec{Kind: api.KindWrap, Text: "w", Parts: []int{1}}, []error{s})
		if s.Made() {
			t.Error("made by a Wrap's Make")
		}
		text, bad := caught(w)
		if flag && bad != Note("s") || !flag && text != "w: s" || !s.Made() {
			t.Errorf("%q, %v, %t", text, bad, s.Made())
		}
	}
}

// P4.8: one without a make panics, run-time, each time.
func TestSlowWithoutMake(t *testing.T) {
	s := new(Slow)
	for range 2 {
		_, bad := caught(s)
		if _, ok := bad.(runtime.Error); !ok || !s.Made() {
			t.Error(bad, s.Made())
		}
	}
}

// P4.8: an item of an interface type is none of the three, whatever it holds.
func TestBoxOfAny(t *testing.T) {
	for _, x := range []any{int8(3), 3.0, []uint8("x"), nil} {
		if text := (Box[any]{x}).Error(); text != "box" {
			t.Errorf("%T: %q", x, text)
		}
	}
	if text := (Box[error]{Code(3)}).Error(); text != "box" {
		t.Error(text)
	}
}
