package kinds_test

import (
	"fmt"
	"slices"
	"strconv"
	"strings"
	"testing"

	"errata/api"
	"errata/kinds"
)

// rows is the chapter's table: the fields that count, " Nil" where Nil may be
// true, and how many parts there may be.
var rows = [...]string{
	"", "Number", "Text", "Re", "Re Im", "Text", "Items Number Nil", "Text Flag Nil", " Nil", "Text Nil", "Text Flag Nil",
	"Number Text", "Text Items", "Text 1", "Text Nil 1", "Text 1", " Nil 64", "Flag 1", "Number 1", "Number Re", " 1",
	"Text Flag Nil", "Text Number Nil", " Nil", "Text Flag Nil", "Number Text 1", "Text Mask Items Nil 64",
}

// most is how many parts a kind may have, by the table.
func most(kind int) int {
	f := strings.Fields(rows[kind])
	if len(f) == 0 {
		return 0
	}
	n, _ := strconv.Atoi(f[len(f)-1])
	return n
}

// basis is a spec of a kind that may be, with as little in it as can be.
func basis(kind int) api.Spec {
	s := api.Spec{Kind: uint8(kind)}
	switch kind {
	case 5:
		s.Text = "abcd"
	case 23:
		s.Number = 1
	case 26:
		s.Items = []string{"n"}
	}
	return s
}

// with is a spec with one field set, by all ways to set it.
func with(s api.Spec) map[string][]api.Spec {
	set := func(do ...func(*api.Spec)) (l []api.Spec) {
		for _, f := range do {
			c := s
			f(&c)
			l = append(l, c)
		}
		return l
	}
	return map[string][]api.Spec{
		"Text":   set(func(s *api.Spec) { s.Text = "text" }, func(s *api.Spec) { s.Text = "\x00\x00\x00\x00" }),
		"Number": set(func(s *api.Spec) { s.Number = 5 }, func(s *api.Spec) { s.Number = -32768 }),
		"Small":  set(func(s *api.Spec) { s.Small = -1 }, func(s *api.Spec) { s.Small = 127 }),
		"Re":     set(func(s *api.Spec) { s.Re = 1 }, func(s *api.Spec) { s.Re = minus0 }, func(s *api.Spec) { s.Re = nan }, func(s *api.Spec) { s.Re = inf }),
		"Im":     set(func(s *api.Spec) { s.Im = 1 }, func(s *api.Spec) { s.Im = minus0 }, func(s *api.Spec) { s.Im = nan }, func(s *api.Spec) { s.Im = -inf }),
		"Flag":   set(func(s *api.Spec) { s.Flag = true }),
		"Mask":   set(func(s *api.Spec) { s.Mask = 1 }, func(s *api.Spec) { s.Mask = 1 << 31 }),
		"Items":  set(func(s *api.Spec) { s.Items = []string{"x"} }, func(s *api.Spec) { s.Items = []string{"\xff"} }),
	}
}

// The section 'Errors', and the bounds.
func TestErrors(t *testing.T) {
	if api.OK != 0 || api.ErrKind != 40 || api.ErrPart != 41 {
		t.Error(api.OK, api.ErrKind, api.ErrPart)
	}
	if api.MaxItems != 64 || api.MaxParts != 64 || api.MaxWord != 4096 || api.MaxText != 65536 {
		t.Error("the bounds")
	}
}

// P4.1: how many parts there may be.
func TestParts(t *testing.T) {
	for kind := range 256 {
		want := 0
		if kind <= 26 {
			want = most(kind)
		}
		if least, n := kinds.Parts(uint8(kind)); least != 0 || n != want {
			t.Errorf("Parts(%d): %d, %d", kind, least, n)
		}
	}
}

// P4.2: what may be.
func TestCheck(t *testing.T) {
	for _, x := range samples() {
		if e := kinds.Check(about(x.s, x.parts...)); e != api.OK {
			t.Errorf("Check(%+v): %d", x.s, e)
		}
	}
	for kind := 1; kind <= 26; kind++ {
		if e := kinds.Check(basis(kind)); e != api.OK {
			t.Errorf("Check(%+v): %d", basis(kind), e)
		}
	}
}

// P4.2: no such kind.
func TestCheckKinds(t *testing.T) {
	for kind := range 256 {
		if kind >= 1 && kind <= 26 {
			continue
		}
		for _, s := range []api.Spec{{}, {Nil: true}, {Text: "abcd"}, {Number: 1}, {Parts: make([]int, 70)}, {Items: []string{"x"}}} {
			s.Kind = uint8(kind)
			if e := kinds.Check(s); e != api.ErrKind {
				t.Errorf("Check(%+v): %d", s, e)
			}
		}
	}
}

// P4.2: each field of each kind (but for a Box's), set alone.
func TestCheckFields(t *testing.T) {
	for kind := 1; kind <= 26; kind++ {
		if kind == 23 {
			continue
		}
		for field, specs := range with(basis(kind)) {
			want := api.ErrKind
			if strings.Contains(rows[kind], field) {
				want = api.OK
			}
			for _, s := range specs {
				if e := kinds.Check(s); e != want {
					t.Errorf("Check(%+v): %d", s, e)
				}
			}
		}
	}
}

// P4.1, P4.2: a Box's fields hang on its Number.
func TestCheckBoxes(t *testing.T) {
	counts := map[int16]string{1: "Small", 2: "Re", 3: "Text"}
	for number := -32768; number <= 32767; number++ {
		want := api.ErrKind
		if number >= 1 && number <= 3 {
			want = api.OK
		}
		if e := kinds.Check(api.Spec{Kind: 23, Number: int16(number)}); e != want {
			t.Fatalf("a Box of Number %d: %d", number, e)
		}
	}
	for number, its := range counts {
		for field, specs := range with(api.Spec{Kind: 23, Number: number}) {
			want := api.ErrKind
			if field == its {
				want = api.OK
			}
			for _, s := range specs {
				if e := kinds.Check(s); field != "Number" && e != want {
					t.Errorf("Check(%+v): %d", s, e)
				}
			}
		}
	}
	for number := int16(-1); number < 6; number++ {
		want := api.ErrKind
		if number == 3 {
			want = api.OK
		}
		if e := kinds.Check(api.Spec{Kind: 23, Number: number, Nil: true}); e != want {
			t.Errorf("a nil Box of Number %d: %d", number, e)
		}
	}
}

// P4.1, P4.2: where Nil may be true, nothing else is set, and there are no parts.
func TestCheckNil(t *testing.T) {
	for kind := 1; kind <= 26; kind++ {
		s := api.Spec{Kind: uint8(kind), Nil: true}
		want := api.ErrKind
		if strings.Contains(rows[kind], " Nil") {
			want = api.OK
		}
		if kind == 23 {
			s.Number = 3
		}
		if e := kinds.Check(s); e != want {
			t.Errorf("Check(%+v): %d", s, e)
		}
		for field, specs := range with(s) {
			for _, s := range specs {
				if e := kinds.Check(s); e != api.ErrKind {
					t.Errorf("Check(%+v), with %s: %d", s, field, e)
				}
			}
		}
		if want == api.OK {
			for _, parts := range [][]int{{0}, {1}, {-1}, {1, 2}} {
				s.Parts = parts
				if e := kinds.Check(s); e != api.ErrPart {
					t.Errorf("Check(%+v): %d", s, e)
				}
			}
		}
		s = basis(kind)
		s.Nil = true
		if kind != 23 && s.Text+strings.Join(s.Items, "") != "" && kinds.Check(s) != api.ErrKind {
			t.Errorf("Check(%+v): %d", s, kinds.Check(s))
		}
	}
}

// P4.2: how long texts and items may be, and how many items; whatever the kind.
func TestCheckBounds(t *testing.T) {
	long := strings.Repeat("a", api.MaxWord)
	many := slices.Repeat([]string{"a"}, api.MaxItems)
	for _, x := range []struct {
		s    api.Spec
		want api.Errno
	}{
		{api.Spec{Kind: 2, Text: long}, api.OK},
		{api.Spec{Kind: 2, Text: long + "a"}, api.ErrKind},
		{api.Spec{Kind: 23, Number: 3, Text: long}, api.OK},
		{api.Spec{Kind: 23, Number: 3, Text: long + "a"}, api.ErrKind},
		{api.Spec{Kind: 26, Text: long, Items: []string{long}}, api.OK},
		{api.Spec{Kind: 26, Text: long, Items: []string{long + "a"}}, api.ErrKind},
		{api.Spec{Kind: 26, Text: long + "a", Items: []string{long}}, api.ErrKind},
		{api.Spec{Kind: 6, Items: many}, api.OK},
		{api.Spec{Kind: 6, Items: append(many[:64:64], "b")}, api.ErrKind},
		{api.Spec{Kind: 12, Items: many}, api.OK},
		{api.Spec{Kind: 12, Items: append(many[:64:64], "b")}, api.ErrKind},
		{api.Spec{Kind: 12, Items: append(many[:63:63], long)}, api.OK},
		{api.Spec{Kind: 12, Items: append(many[:63:63], long+"a")}, api.ErrKind},
		{api.Spec{Kind: 6, Items: []string{long + "a", "b"}}, api.ErrKind},
		{api.Spec{Kind: 5}, api.ErrKind},
		{api.Spec{Kind: 5, Text: "abc"}, api.ErrKind},
		{api.Spec{Kind: 5, Text: "abcde"}, api.ErrKind},
		{api.Spec{Kind: 5, Text: "éé"}, api.OK},
		{api.Spec{Kind: 5, Text: "éééé"}, api.ErrKind},
		{api.Spec{Kind: 26}, api.ErrKind},
		{api.Spec{Kind: 26, Items: []string{""}}, api.ErrKind},
		{api.Spec{Kind: 26, Items: []string{"a", "b"}}, api.ErrKind},
		{api.Spec{Kind: 26, Items: []string{"a", ""}}, api.ErrKind},
		{api.Spec{Kind: 26, Items: []string{"a"}, Mask: 1<<32 - 1}, api.OK},
		{api.Spec{Kind: 6, Items: []string{""}}, api.OK},
		{api.Spec{Kind: 1, Items: []string{}, Parts: []int{}}, api.OK},
	} {
		if e := kinds.Check(x.s); e != x.want {
			t.Errorf("Check(%.60s): %d", fmt.Sprintf("%+v", x.s), e)
		}
	}
}

// P4.2: how many parts there may be, whatever numbers they are; a wrong field is told ahead of them.
func TestCheckParts(t *testing.T) {
	for kind := 1; kind <= 26; kind++ {
		for n := range 70 {
			want := api.OK
			if n > most(kind) {
				want = api.ErrPart
			}
			for _, number := range []int{0, 1, -1, 1 << 62, -1 << 63} {
				s := basis(kind)
				s.Parts = slices.Repeat([]int{number}, n)
				if e := kinds.Check(s); e != want {
					t.Errorf("kind %d with %d parts: %d", kind, n, e)
				}
				s.Small = 1
				if e := kinds.Check(s); kind != 23 && e != api.ErrKind {
					t.Errorf("kind %d with Small and %d parts: %d", kind, n, e)
				}
			}
		}
	}
}

// Example 7.
func TestCheckExamples(t *testing.T) {
	for _, s := range []api.Spec{{Kind: 0}, {Kind: 27}, {Kind: 1, Text: "x"}, {Kind: 5, Text: "abc"}, {Kind: 9, Nil: true, Text: "x"}, {Kind: 23, Number: 4}, {Kind: 23, Number: 1, Re: minus0}, {Kind: 26}} {
		if e := kinds.Check(s); e != api.ErrKind {
			t.Errorf("Check(%+v): %d", s, e)
		}
	}
	for _, s := range []api.Spec{{Kind: 1, Parts: []int{0}}, {Kind: 14, Parts: []int{1, 2}}} {
		if e := kinds.Check(s); e != api.ErrPart {
			t.Errorf("Check(%+v): %d", s, e)
		}
	}
}
