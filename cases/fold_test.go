package cases_test

import (
	"math"
	"slices"
	"strconv"
	"strings"
	"testing"

	"errata/api"
	"errata/book"
	"errata/cases"
)

// must is clauses, compiled.
func must(t testing.TB, l ...cases.Clause) *cases.Switch {
	t.Helper()
	s, e := cases.Compile(l)
	if e != api.OK {
		t.Fatalf("Compile(%v): %d", l, e)
	}
	return s
}

// count is 1 and the sum of the parts.
func count(_ int, parts []int) int {
	n := 1
	for _, p := range parts {
		n += p
	}
	return n
}

// times is a list of one function, many times.
func times[R any](n int, f func(int, []R) R) []func(int, []R) R {
	return slices.Repeat([]func(int, []R) R{f}, n)
}

// P9.6: the chapter's example of Fold.
func TestExampleOfFold(t *testing.T) {
	b := book.New()
	code := put(t, b, api.Spec{Kind: api.KindCode})
	join := put(t, b, api.Spec{Kind: api.KindJoin, Parts: []int{code, 0}})
	wrap := put(t, b, api.Spec{Kind: api.KindWrap, Parts: []int{join}})
	if got, e := cases.Fold(b, wrap, must(t, byDefault(1)), times(1, count)); got != 3 || e != api.OK {
		t.Errorf("Fold: %d, %d", got, e)
	}
}

// P9.8: a switch that chooses for every kind, and counts, tells each error's
// Size; of no error, too, if it is not asked about that.
func TestFoldCounts(t *testing.T) {
	b := all(t)
	var everything []cases.Clause
	for k := uint8(1); k <= 26; k++ {
		everything = append(everything, kind(k, 0))
	}
	for _, l := range [][]cases.Clause{
		{face(api.FaceError, 0)}, {face(api.FaceAny, 0)}, everything, {face(2, 0), kind(16, 0), face(9, 0), byDefault(0), noError(0)},
	} {
		s := must(t, l...)
		for h := 0; h <= b.Len(); h++ {
			want, _ := b.Size(h)
			if h == 0 && len(l) == 5 {
				want = 1 // no error is asked about, and has no parts
			}
			if got, e := cases.Fold(b, h, s, times(len(l), count)); got != want || e != api.OK {
				t.Errorf("Fold of %d by %d clauses: %d, %d; want %d", h, len(l), got, e, want)
			}
		}
	}
}

// traced is what a function of a clause makes of a node and its parts: all of
// it, as a text. Each call is told, in order.
func traced(calls *[]string, clause int) func(int, []string) string {
	return func(h int, parts []string) string {
		made := strconv.Itoa(clause) + ":" + strconv.Itoa(h) + "(" + strings.Join(parts, " ") + ")"
		*calls = append(*calls, made)
		return made
	}
}

// traces is what comes of an error by the chapter's words, and the calls on the
// way.
func traces(b *book.Book, h int, l []cases.Clause, calls *[]string) string {
	s, _ := b.Spec(h)
	var parts []string
	for _, part := range s.Parts {
		if part != 0 {
			parts = append(parts, traces(b, part, l, calls))
		}
	}
	c := chosenOf(l, s.Kind)
	if c.Clause < 0 {
		return ""
	}
	return traced(calls, c.Clause)(h, parts)
}

// folds is a fold of an error by clauses, held against the words.
func folds(t *testing.T, b *book.Book, h int, l []cases.Clause) string {
	t.Helper()
	var calls, wantCalls []string
	var do []func(int, []string) string
	for i := range l {
		do = append(do, traced(&calls, i))
	}
	want := traces(b, h, l, &wantCalls)
	got, e := cases.Fold(b, h, must(t, l...), do)
	if got != want || !slices.Equal(calls, wantCalls) || e != api.OK {
		t.Fatalf("Fold(%d, %v): %q by %q, %d; want %q by %q", h, l, got, calls, e, want, wantCalls)
	}
	return got
}

// P9.6: a node behind its parts, parts in order, twice what stands twice, no
// errors left out, nodes for which nothing is chosen as R's zero value.
func TestFoldInOrder(t *testing.T) {
	b := book.New()
	code := put(t, b, api.Spec{Kind: 1})                                                 // 1
	note := put(t, b, api.Spec{Kind: 2})                                                 // 2
	hold := put(t, b, api.Spec{Kind: 13, Parts: []int{note}})                            // 3: its part is in no Unwrap
	join := put(t, b, api.Spec{Kind: 16, Parts: []int{code, 0, hold, 0, code}})          // 4
	put(t, b, api.Spec{Kind: 26, Items: []string{"x"}, Parts: []int{join, join, 0}})     // 5
	put(t, b, api.Spec{Kind: 16, Parts: []int{0, 0}})                                    // 6
	wrap := put(t, b, api.Spec{Kind: 14, Parts: []int{join}})                            // 7
	put(t, b, api.Spec{Kind: 25, Parts: []int{wrap}})                                    // 8: its Unwrap is its Wrap's
	timed := put(t, b, api.Spec{Kind: 17, Parts: []int{code}})                           // 9
	put(t, b, api.Spec{Kind: 20, Parts: []int{timed}})                                   // 10
	nils := put(t, b, api.Spec{Kind: 14, Nil: true})                                     // 11
	put(t, b, api.Spec{Kind: 25, Parts: []int{nils}})                                    // 12
	put(t, b, api.Spec{Kind: 18, Parts: []int{put(t, b, api.Spec{Kind: 9})}})            // 14
	put(t, b, api.Spec{Kind: 15, Parts: []int{put(t, b, api.Spec{Kind: 14, Text: ""})}}) // 16
	rest := clauses(byDefault(0))
	for _, c := range []struct {
		h    int
		l    []cases.Clause
		want string
	}{
		{1, rest, "0:1()"}, {3, rest, "0:3(0:2())"}, {4, rest, "0:4(0:1() 0:3(0:2()) 0:1())"},
		{5, rest, "0:5(0:4(0:1() 0:3(0:2()) 0:1()) 0:4(0:1() 0:3(0:2()) 0:1()))"},
		{6, rest, "0:6()"}, {8, rest, "0:8(0:7(0:4(0:1() 0:3(0:2()) 0:1())))"}, {10, rest, "0:10(0:9(0:1()))"},
		{11, rest, "0:11()"}, {12, rest, "0:12(0:11())"}, {14, rest, "0:14(0:13())"}, {16, rest, "0:16(0:15())"},
		{4, clauses(kind(16, 0), kind(1, 0)), "0:4(1:1()  1:1())"},
		{4, clauses(kind(1, 0)), ""}, {3, clauses(noError(1), kind(13, 0)), "1:3()"},
		{4, clauses(face(13, 7), byDefault(-1), face(10, 3), noError(0)), "2:4(0:1() 1:3(0:2()) 0:1())"},
		{0, rest, "0:0()"}, {0, clauses(face(19, 1)), ""}, {0, nil, ""}, {5, nil, ""}, {0, clauses(face(19, 1), noError(1)), "1:0()"},
	} {
		if got := folds(t, b, c.h, c.l); got != c.want {
			t.Errorf("Fold(%d, %v): %q; want %q", c.h, c.l, got, c.want)
		}
	}
}

// P9.6: many switches, over all errors.
func TestFoldMany(t *testing.T) {
	b := all(t)
	var d dice
	for range 60 {
		l := d.clauses()
		for h := 0; h <= b.Len(); h++ {
			folds(t, b, h, l)
		}
	}
}

// P9.6: where nothing is chosen for a node its parts are gone through all the
// same, and it counts as a part: R's zero value, of whatever type.
func TestFoldZeros(t *testing.T) {
	b := book.New()
	code := put(t, b, api.Spec{Kind: 1})
	over := put(t, b, api.Spec{Kind: 15, Parts: []int{code}})
	join := put(t, b, api.Spec{Kind: 16, Parts: []int{over, code, over}})
	s := must(t, kind(16, 1), kind(1, 2))
	calls := 0
	got, e := cases.Fold(b, join, s, []func(int, []*int) *int{
		func(h int, parts []*int) *int {
			if len(parts) != 3 || parts[0] != nil || parts[1] == nil || *parts[1] != code || parts[2] != nil {
				t.Errorf("parts of %d: %v", h, parts)
			}
			return &calls
		},
		func(h int, parts []*int) *int { calls++; return &h },
	})
	if got != &calls || calls != 3 || e != api.OK {
		t.Errorf("Fold: %v, %d calls, %d", got, calls, e)
	}
	row, e := cases.Fold(b, over, s, times(2, func(int, [][3]int) [3]int { return [3]int{1, 2, 3} }))
	if row != [3]int{} || e != api.OK {
		t.Errorf("Fold of what nothing is chosen for: %v, %d", row, e)
	}
	none, e := cases.Fold(b, 0, s, times(2, func(int, []error) error { return api.ErrArg }))
	if none != nil || e != api.OK {
		t.Errorf("Fold of no error: %v, %d", none, e)
	}
}

// P9.6, R3: what came of the parts stands in a list of its own, room and all:
// whatever is written there, nothing else is changed.
func TestFoldLists(t *testing.T) {
	b := book.New()
	var codes []int
	for range 5 {
		codes = append(codes, put(t, b, api.Spec{Kind: 1}))
	}
	inner := put(t, b, api.Spec{Kind: 16, Parts: codes[:3]})
	parts := []int{1, 2, 3, 4, 5, inner, inner, 1}
	join := put(t, b, api.Spec{Kind: 16, Parts: parts})
	var kept [][]int
	got, e := cases.Fold(b, join, must(t, byDefault(0)), times(1, func(h int, came []int) int {
		if want, _ := b.Parts(h); !slices.Equal(came, want) {
			t.Errorf("parts of %d: %v", h, came)
		}
		kept = append(kept, came)
		for i := range came[:cap(came)] {
			came[:cap(came)][i] = -len(kept)
		}
		return h
	}))
	if got != join || len(kept) != 15 || e != api.OK {
		t.Errorf("Fold: %d, %d calls, %d", got, len(kept), e)
	}
	for i, l := range kept {
		for _, v := range l[:cap(l)] {
			if v != -(i + 1) {
				t.Errorf("the list of call %d: %v", i+1, l[:cap(l)])
			}
		}
	}
	if again, _ := b.Parts(join); !slices.Equal(again, parts) {
		t.Error("the parts were changed:", again)
	}
}

// P9.6: as deep and as large as an error may be; the functions may make errors.
func TestFoldLarge(t *testing.T) {
	b := book.New()
	h := put(t, b, api.Spec{Kind: 1})
	for range 11 {
		h = put(t, b, api.Spec{Kind: 16, Parts: []int{h, 0, h}})
	}
	size, _ := b.Size(h)
	depth, _ := b.Depth(h)
	for size < api.MaxSize && depth < api.MaxDepth {
		h = put(t, b, api.Spec{Kind: 13, Parts: []int{h}})
		size, depth = size+1, depth+1
	}
	s := must(t, kind(16, 1), kind(13, 2), face(2, 3))
	if got, e := cases.Fold(b, h, s, times(3, count)); got != size || e != api.OK || size != 4096 && depth != 64 {
		t.Errorf("Fold of %d nodes, %d deep: %d, %d", size, depth, got, e)
	}
	for range 100 {
		before := b.Len()
		got, e := cases.Fold(b, 3, s, times(3, func(h int, parts []int) int {
			put(t, b, api.Spec{Kind: 16, Parts: []int{h}})
			return count(h, parts)
		}))
		if got != 7 || b.Len() != before+7 || e != api.OK {
			t.Fatalf("Fold that makes errors: %d, %d made, %d", got, b.Len()-before, e)
		}
	}
	deep := put(t, b, api.Spec{Kind: 2})
	for range 63 {
		deep = put(t, b, api.Spec{Kind: 15, Parts: []int{deep}})
	}
	if got, e := cases.Fold(b, deep, must(t, byDefault(0)), times(1, count)); got != 64 || e != api.OK {
		t.Errorf("Fold of the deepest: %d, %d", got, e)
	}
}

// The section 'Errors' of Fold, in its order; where it is wrong nothing is called.
func TestFoldWrong(t *testing.T) {
	b := book.New()
	put(t, b, api.Spec{Kind: 1})
	s := must(t, kind(1, 1), byDefault(2))
	called := func(int, []int) int { t.Error("a function was called"); return 5 }
	full, short, long := times(2, called), times(1, called), times(3, called)
	gaps := [][]func(int, []int) int{{nil, called}, {called, nil}, {nil, nil}}
	folds := func(b *book.Book, h int, s *cases.Switch, do []func(int, []int) int, want api.Errno) {
		t.Helper()
		got, e := cases.Fold(b, h, s, do)
		wrong(t, "Fold", want, e, got)
	}
	for _, do := range append(gaps, nil, short, full, long) {
		for _, h := range append([]int{0, 1}, badHandles...) {
			folds(nil, h, s, do, api.ErrNil)
			folds(nil, h, nil, do, api.ErrNil)
			folds(b, h, nil, do, api.ErrNil)
		}
		for _, h := range badHandles {
			folds(b, h, s, do, api.ErrHandle)
		}
	}
	for h := range 2 {
		for _, do := range [][]func(int, []int) int{nil, {}, short, long, {nil}, {nil, nil, nil}, {called, nil, nil}} {
			folds(b, h, s, do, api.ErrArg)
		}
		for _, do := range gaps {
			folds(b, h, s, do, api.ErrNil)
		}
		folds(b, h, must(t), short, api.ErrArg)
	}
	folds(b, math.MaxInt, s, nil, api.ErrHandle)
	for h := range 2 {
		if got, e := cases.Fold(b, h, must(t), []func(int, []int) int(nil)); got != 0 || e != api.OK {
			t.Errorf("Fold by no clauses: %d, %d", got, e)
		}
	}
}
