package faces_test

import (
	"math"
	"reflect"
	"slices"
	"testing"

	"errata/api"
	"errata/book"
	"errata/faces"
)

// runtime is the panic of the language's own.
var runtime = api.Panic{Sort: api.RuntimePanic}

// four is the book of the chapter's examples.
func four(t *testing.T) *book.Book {
	t.Helper()
	b := book.New()
	for _, s := range []api.Spec{{Kind: 1, Number: 7}, {Kind: 10, Nil: true}, {Kind: 25}, {Kind: 19}} {
		put(t, b, s)
	}
	return b
}

// The chapter's examples of Holds, Held and Assert.
func TestExamplesOfOne(t *testing.T) {
	b := four(t)
	for h, want := range []uint32{0, set(1, 2, 13, 19), set(1, 6, 15, 19), set(1, 2, 3, 9, 16, 19), set(1, 2, 4, 19)} {
		if got, e := faces.Held(b, h); got != want || e != api.OK {
			t.Errorf("Held(%d): %b, %d", h, got, e)
		}
	}
	for _, c := range []struct {
		h    int
		face uint8
		want bool
		e    api.Errno
	}{
		{1, api.FaceTimer, false, api.OK}, {0, api.FaceAny, false, api.OK}, {1, api.FaceAny, true, api.OK},
		{9, api.FaceAny, false, api.ErrHandle}, {1, 20, false, api.ErrFace},
	} {
		if got, e := faces.Holds(b, c.h, c.face); got != c.want || e != c.e {
			t.Errorf("Holds(%d, %d): %t, %d", c.h, c.face, got, e)
		}
	}
	for _, c := range []struct {
		h    int
		face uint8
		want api.Panic
	}{{2, api.FaceTimer, api.Panic{}}, {2, api.FaceCoder, runtime}, {0, api.FaceAny, runtime}} {
		if got, e := faces.Assert(b, c.h, c.face); got != c.want || e != api.OK {
			t.Errorf("Assert(%d, %d): %v, %d", c.h, c.face, got, e)
		}
	}
}

// The chapter's examples of Road, Which and Shared.
func TestExamplesOfSome(t *testing.T) {
	b := four(t)
	for _, c := range []struct {
		road []uint8
		want int
	}{
		{[]uint8{api.FaceOne, api.FaceCoder, api.FaceAny, api.FaceGrader, api.FaceTimer, api.FaceError}, 4},
		{nil, 0}, {[]uint8{api.FaceTimer, api.FaceOne}, 0},
	} {
		if got, e := faces.Road(b, 3, c.road); got != c.want || e != api.OK {
			t.Errorf("Road(3, %v): %d, %d", c.road, got, e)
		}
	}
	if got, e := faces.Which(b, api.FaceGrader); !slices.Equal(got, []int{1, 3, 4}) || e != api.OK {
		t.Errorf("Which: %v, %d", got, e)
	}
	for _, c := range []struct {
		hs   []int
		want uint32
	}{{[]int{1, 4}, set(1, 2, 19)}, {[]int{1, 0}, 0}, {nil, every}} {
		if got, e := faces.Shared(b, c.hs); got != c.want || e != api.OK {
			t.Errorf("Shared(%v): %b, %d", c.hs, got, e)
		}
	}
}

// P6.1, P6.2: of all errors and all faces, as their types have it; and P6.7, by
// the table of the kinds.
func TestHeld(t *testing.T) {
	b := all(t)
	for h := 0; h <= b.Len(); h++ {
		want := heldBy(t, b, h)
		if s, e := b.Spec(h); e == api.OK && want != set(heldByKind[s.Kind]...)|set(api.FaceError, api.FaceAny) {
			t.Fatalf("kind %d has %b", s.Kind, want)
		}
		if got, e := faces.Held(b, h); got != want || e != api.OK {
			t.Errorf("Held(%d): %b, %d; want %b", h, got, e, want)
		}
		for face := uint8(1); face <= last; face++ {
			holds := want&set(face) != 0
			if got, e := faces.Holds(b, h, face); got != holds || e != api.OK {
				t.Errorf("Holds(%d, %d): %t, %d", h, face, got, e)
			}
			panicked := runtime
			if holds {
				panicked = api.Panic{}
			}
			if got, e := faces.Assert(b, h, face); got != panicked || e != api.OK {
				t.Errorf("Assert(%d, %d): %v, %d", h, face, got, e)
			}
		}
	}
}

// P6.3, P6.7: a road goes up to the first face that the error does not hold,
// wherever it stands.
func TestRoad(t *testing.T) {
	b := all(t)
	var d dice
	ends := [faces.MaxRoad + 1]int{}
	for range 20000 {
		h := d.below(b.Len() + 1)
		held := heldBy(t, b, h)
		road := d.road(held)
		want := slices.IndexFunc(road, func(face uint8) bool { return held&set(face) == 0 })
		if want < 0 {
			want = len(road)
		}
		if got, e := faces.Road(b, h, road); got != want || e != api.OK {
			t.Fatalf("Road(%d, %v): %d, %d; want %d", h, road, got, e, want)
		}
		ends[want]++
	}
	if slices.Contains(ends[:20], 0) {
		t.Error("no road is so far:", ends)
	}
}

// P6.3: from each face that is held to each other one, by way of a third.
func TestRoadByAnyWay(t *testing.T) {
	b := all(t)
	for h := 0; h <= b.Len(); h++ {
		held := heldBy(t, b, h)
		for road := range threes() {
			want := 0
			for want < 3 && held&set(road[want]) != 0 {
				want++
			}
			if got, e := faces.Road(b, h, road); got != want || e != api.OK {
				t.Fatalf("Road(%d, %v): %d, %d; want %d", h, road, got, e, want)
			}
		}
	}
}

// threes goes through roads of three faces.
func threes() func(yield func([]uint8) bool) {
	return func(yield func([]uint8) bool) {
		for one := uint8(1); one <= last; one++ {
			for other := uint8(1); other <= last; other++ {
				if !yield([]uint8{one, api.FaceAny, other}) || !yield([]uint8{api.FaceError, one, other}) {
					return
				}
			}
		}
	}
}

// P6.4: which errors hold a face, and which faces errors share.
func TestWhich(t *testing.T) {
	b := all(t)
	for face := uint8(1); face <= last; face++ {
		var want []int
		for h := 0; h <= b.Len(); h++ {
			if heldBy(t, b, h)&set(face) != 0 {
				want = append(want, h)
			}
		}
		if got, e := faces.Which(b, face); !slices.Equal(got, want) || e != api.OK {
			t.Errorf("Which(%d): %v, %d; want %v", face, got, e, want)
		}
		if got, e := faces.Which(book.New(), face); len(got) != 0 || e != api.OK {
			t.Errorf("Which(%d) of an empty book: %v, %d", face, got, e)
		}
	}
}

func TestShared(t *testing.T) {
	b := all(t)
	var d dice
	for range 5000 {
		want := every
		var hs []int
		for range d.below(6) {
			h := d.below(b.Len() + 1)
			hs = append(hs, h)
			want &= heldBy(t, b, h)
		}
		if got, e := faces.Shared(b, hs); got != want || e != api.OK {
			t.Fatalf("Shared(%v): %b, %d; want %b", hs, got, e, want)
		}
	}
	many := slices.Repeat([]int{1}, 100000)
	if got, e := faces.Shared(b, many); got != heldBy(t, b, 1) || e != api.OK {
		t.Errorf("Shared of one, many times: %b, %d", got, e)
	}
	if got, e := faces.Shared(book.New(), []int{0}); got != 0 || e != api.OK {
		t.Errorf("Shared of no error in an empty book: %b, %d", got, e)
	}
}

// answer is what a call that may be wrong answers: its result, and the error.
type answer struct {
	result any
	e      api.Errno
}

func of[T any](result T, e api.Errno) answer { return answer{result, e} }

// wrong is a call that must answer zero and the error.
func wrong(t *testing.T, call string, got answer, want api.Errno) {
	t.Helper()
	if got.e != want || !reflect.ValueOf(got.result).IsZero() {
		t.Errorf("%s: %v, %d; want %d", call, got.result, got.e, want)
	}
}

// badHandles name none in a book of four errors.
var badHandles = []int{-1, 5, 6, 1 << 16, 1 << 32, 1<<32 + 1, math.MaxInt, math.MinInt}

// The section 'Errors', in its order: a nil book ahead of all else.
func TestNilBook(t *testing.T) {
	for _, h := range []int{0, 1, -1, 9} {
		for _, face := range []uint8{1, last, 0, 20, 255} {
			long := slices.Repeat([]uint8{face}, faces.MaxRoad+1)
			wrong(t, "Holds", of(faces.Holds(nil, h, face)), api.ErrNil)
			wrong(t, "Assert", of(faces.Assert(nil, h, face)), api.ErrNil)
			wrong(t, "Held", of(faces.Held(nil, h)), api.ErrNil)
			wrong(t, "Road", of(faces.Road(nil, h, long)), api.ErrNil)
			wrong(t, "Road", of(faces.Road(nil, h, nil)), api.ErrNil)
			wrong(t, "Which", of(faces.Which(nil, face)), api.ErrNil)
			wrong(t, "Shared", of(faces.Shared(nil, []int{h})), api.ErrNil)
			wrong(t, "Shared", of(faces.Shared(nil, nil)), api.ErrNil)
		}
	}
}

// A handle that names none is told ahead of what is no face.
func TestBadHandles(t *testing.T) {
	b := four(t)
	for _, h := range badHandles {
		for _, face := range append([]uint8{1, last}, noFaces...) {
			long := slices.Repeat([]uint8{face}, faces.MaxRoad+1)
			wrong(t, "Holds", of(faces.Holds(b, h, face)), api.ErrHandle)
			wrong(t, "Assert", of(faces.Assert(b, h, face)), api.ErrHandle)
			wrong(t, "Road", of(faces.Road(b, h, long)), api.ErrHandle)
			wrong(t, "Road", of(faces.Road(b, h, long[:1])), api.ErrHandle)
		}
		wrong(t, "Held", of(faces.Held(b, h)), api.ErrHandle)
		wrong(t, "Road", of(faces.Road(b, h, nil)), api.ErrHandle)
		for _, hs := range [][]int{{h}, {1, h}, {h, 1}, {1, 4, h}, {0, h}, {h, 0}} {
			wrong(t, "Shared", of(faces.Shared(b, hs)), api.ErrHandle)
		}
	}
}

// What is no face, by every call that is handed one; 0 is a handle for all.
func TestBadFaces(t *testing.T) {
	b := four(t)
	for _, face := range noFaces {
		for h := range 5 {
			wrong(t, "Holds", of(faces.Holds(b, h, face)), api.ErrFace)
			wrong(t, "Assert", of(faces.Assert(b, h, face)), api.ErrFace)
			for _, road := range [][]uint8{{face}, {1, face}, {face, 1}, {api.FaceNobody, face}, append(slices.Repeat([]uint8{19}, 63), face)} {
				wrong(t, "Road", of(faces.Road(b, h, road)), api.ErrFace)
			}
		}
		wrong(t, "Which", of(faces.Which(b, face)), api.ErrFace)
		wrong(t, "Which", of(faces.Which(book.New(), face)), api.ErrFace)
	}
}

// A road has as many faces as the bound, and no more.
func TestLongRoads(t *testing.T) {
	b := four(t)
	if faces.MaxRoad != 64 {
		t.Error("MaxRoad is", faces.MaxRoad)
	}
	long := slices.Repeat([]uint8{api.FaceError}, 64)
	if got, e := faces.Road(b, 1, long); got != 64 || e != api.OK {
		t.Errorf("Road of 64: %d, %d", got, e)
	}
	if got, e := faces.Road(b, 0, long); got != 0 || e != api.OK {
		t.Errorf("Road of no error: %d, %d", got, e)
	}
	for _, more := range [][]uint8{{1}, {api.FaceNobody}, {0}, {255}, slices.Repeat([]uint8{20}, 100000)} {
		wrong(t, "Road of 65", of(faces.Road(b, 1, append(slices.Clone(long), more...))), api.ErrArg)
		wrong(t, "Road of 65", of(faces.Road(b, 0, append(slices.Clone(more), long...))), api.ErrArg)
	}
}

// P6.1: no call calls a method: what is made by the first one was not made.
func TestNothingIsCalled(t *testing.T) {
	b := all(t)
	var hs []int
	for h := range b.Each() {
		hs = append(hs, h)
		faces.Held(b, h)
		faces.Road(b, h, []uint8{api.FaceError, api.FaceAny, api.FaceTimedError})
		for face := uint8(1); face <= last; face++ {
			faces.Holds(b, h, face)
			faces.Assert(b, h, face)
			faces.Which(b, face)
		}
	}
	faces.Shared(b, hs)
	for _, s := range slows(b) {
		if s.Made() {
			t.Error("an Error was called")
		}
	}
}

// R3: what is handed in stays, what is handed out is new.
func TestLists(t *testing.T) {
	b := four(t)
	road, behind := withRoom([]uint8{api.FaceError, api.FaceAny, api.FaceTimer}, 7)
	hs, after := withRoom([]int{1, 4}, -7)
	faces.Road(b, 1, road)
	faces.Shared(b, hs)
	if !slices.Equal(road, []uint8{1, 19, 6}) || !slices.Equal(behind, []uint8{7, 7, 7}) {
		t.Error("a road was changed:", road, behind)
	}
	if !slices.Equal(hs, []int{1, 4}) || !slices.Equal(after, []int{-7, -7, -7}) {
		t.Error("handles were changed:", hs, after)
	}
	got, _ := faces.Which(b, api.FaceGrader)
	for i := range got[:cap(got)] {
		got[:cap(got)][i] = -9
	}
	if again, _ := faces.Which(b, api.FaceGrader); !slices.Equal(again, []int{1, 3, 4}) {
		t.Error("an answer was changed:", again)
	}
	if b.Len() != 4 {
		t.Error("the book has", b.Len())
	}
}
