package place_test

import (
	"regexp"
	"slices"
	"strconv"
	"strings"
	"testing"

	"errata/api"
	"errata/place"
)

// The section 'Errors', and the bounds.
func TestErrors(t *testing.T) {
	if api.ErrArg != 1 || api.ErrNil != 2 || api.ErrFull != 3 || api.ErrForm != 4 || api.ErrPlace != 30 || api.ErrStack != 31 {
		t.Error("the errors' numbers")
	}
	if place.MaxName != 120 || place.MaxLine != 1048576 || place.MaxPlaces != 64 || place.MaxNodes != 4096 || place.MaxPeriod != 8 {
		t.Error("the bounds")
	}
}

// P3.1.
func TestCheck(t *testing.T) {
	for _, x := range []struct {
		l    []place.Place
		want api.Errno
	}{
		{[]place.Place{{"", 1}}, api.ErrPlace},
		{stack("a:1048577"), api.ErrPlace},
		{chain(65), api.ErrStack},
		{[]place.Place{{"a b", 1}}, api.ErrPlace},
		{chain(64), api.OK},
		{nil, api.OK},
		{stack("a:1048576"), api.OK},
		{stack("a:0"), api.OK},
		{[]place.Place{{"a", -1}}, api.ErrPlace},
	} {
		if e := place.Check(x.l); e != x.want {
			t.Errorf("Check(%s): %d", show(x.l), e)
		}
	}
	for _, l := range edges() {
		if e := place.Check(l); e != api.OK {
			t.Errorf("Check(%s): %d", show(l), e)
		}
	}
	for _, x := range wrong() {
		if e := place.Check(x.l); e != x.e {
			t.Errorf("Check(%s): %d", show(x.l), e)
		}
	}
}

// P3.1: of which bytes a name may be, at its front, within it and at its end; how many there may be.
func TestCheckNames(t *testing.T) {
	for c := range 256 {
		want := api.ErrPlace
		if c >= 0x21 && c <= 0x7E && c != 0x3A {
			want = api.OK
		}
		s := string([]byte{byte(c)})
		for _, name := range []string{s, s + "a", "a" + s, "a" + s + "b"} {
			if e := place.Check([]place.Place{{name, 1}}); e != want {
				t.Errorf("%q: %d", name, e)
			}
		}
	}
	for n := range 300 {
		want := api.ErrPlace
		if n >= 1 && n <= 120 {
			want = api.OK
		}
		if e := place.Check([]place.Place{{strings.Repeat("x", n), 1}}); e != want {
			t.Errorf("a name of %d bytes: %d", n, e)
		}
	}
}

// P3.2.
func TestTextExamples(t *testing.T) {
	for _, x := range []struct {
		l []place.Place
		s string
	}{
		{stack("main:1 f:20 g:3"), "g:3 < f:20 < main:1"},
		{stack("f:20 g:3"), "g:3 < f:20"},
		{nil, ""},
		{stack("m:0"), "m:0"},
		{stack("m:1048576"), "m:1048576"},
		{stack("<:1 <:2"), "<:2 < <:1"},
		{stack("0:0 -1:10"), "-1:10 < 0:0"},
	} {
		if s, e := place.Text(x.l); s != x.s || e != api.OK {
			t.Errorf("Text(%v): %q, %d", x.l, s, e)
		}
		if l, e := place.Parse(x.s); !slices.Equal(l, x.l) || e != api.OK {
			t.Errorf("Parse(%q): %v, %d", x.s, l, e)
		}
	}
	for _, x := range wrong() {
		if s, e := place.Text(x.l); s != "" || e != x.e {
			t.Errorf("Text(%s): %q, %d", show(x.l), s, e)
		}
	}
}

// P3.2: texts of no stack.
func TestParseRefuses(t *testing.T) {
	long := strings.Repeat("n", 121)
	for _, s := range []string{
		"g:03", "g:3 <f:20", "g", "g:", ":3", ":", "g:+3", "g:-0", "g:-3", "g:00", "g:3 ", " g:3", "g:3\n", "g: 3", "g :3", "g:3:4", "g::3",
		"g:3 < ", " < g:3", " < ", "<", "g:3 <  f:2", "g:3  < f:2", "g:3 < < f:2", "g:3 < f:2 <", "g:3 > f:2", "g:3<f:2", "g:3 f:2", "g:3 < f", "g < f:2",
		"g:1048577", "g:9223372036854775808", "g:18446744073709551617", "g:4294967297", "g:1e3", "g:0x1", "g:1_0", "g:3.0", "g:\xd9\xa3",
		"a b:1", "a\tb:1", "\xc3\xa9:1", "\xff:1", "\x7f:1", long + ":1", "a:1 < " + long + ":1", " ", "\n", "\x00",
	} {
		if l, e := place.Parse(s); len(l) != 0 || e != api.ErrForm {
			t.Errorf("Parse(%q): %v, %d", s, l, e)
		}
	}
}

// P3.2: as many places as a stack has, and one more.
func TestParseMany(t *testing.T) {
	for n := 1; n < 70; n++ {
		s := strings.Repeat("a:1 < ", n-1) + "b:2"
		l, e := place.Parse(s)
		if n > 64 {
			if len(l) != 0 || e != api.ErrForm {
				t.Errorf("%d places: %d, %d", n, len(l), e)
			}
			continue
		}
		want := append(stack("b:2"), slices.Repeat(stack("a:1"), n-1)...)
		if !slices.Equal(l, want) || e != api.OK {
			t.Errorf("%d places: %v, %d", n, l, e)
		}
	}
	if l, e := place.Parse(strings.Repeat("a:1 < ", 1<<20) + "b:2"); len(l) != 0 || e != api.ErrForm {
		t.Error(len(l), e)
	}
}

// onePlace is the form of a place's text.
var onePlace = regexp.MustCompile(`^([\x21-\x39\x3B-\x7E]{1,120}):(0|[1-9][0-9]{0,6})$`)

// read is the stack whose text it is, by another way than the package's.
func read(s string) ([]place.Place, bool) {
	var l []place.Place
	if s == "" {
		return l, true
	}
	for _, part := range strings.Split(s, " < ") {
		m := onePlace.FindStringSubmatch(part)
		if m == nil {
			return nil, false
		}
		line, _ := strconv.Atoi(m[2])
		if line > 1048576 {
			return nil, false
		}
		l = append([]place.Place{{m[1], line}}, l...)
	}
	return l, len(l) <= 64
}

// P3.2: all short texts of the pieces that matter, and texts with a byte out, in, or another.
func TestParseAll(t *testing.T) {
	all := []string{""}
	from := 0
	for range 6 {
		end := len(all)
		for _, s := range all[from:end] {
			for _, piece := range []string{"a", ":", "0", "1", " ", "<", " < ", "a:1"} {
				all = append(all, s+piece)
			}
		}
		from = end
	}
	for _, s := range []string{"g:3 < f:20 < main:1", "a:1048576 < b:0", "<:10 < <:100"} {
		for at := range len(s) + 1 {
			for c := range 256 {
				all = append(all, s[:at]+string([]byte{byte(c)})+s[at:], s[:at]+string([]byte{byte(c)})+s[min(at+1, len(s)):])
			}
			all = append(all, s[:at], s[at:], s[:at]+s[min(at+1, len(s)):])
		}
	}
	for _, s := range all {
		want, ok := read(s)
		l, e := place.Parse(s)
		if !slices.Equal(l, want) || ok != (e == api.OK) || !ok && e != api.ErrForm {
			t.Fatalf("Parse(%q): %v, %d", s, l, e)
		}
		if !ok {
			continue
		}
		if told, e := place.Text(l); told != s || e != api.OK {
			t.Fatalf("Text(%v): %q, %d", l, told, e)
		}
	}
}

// P3.8: Parse of Text is the stack.
func TestParseOfText(t *testing.T) {
	for _, l := range slices.Concat(edges(), rows()) {
		s, e := place.Text(l)
		if e != api.OK {
			t.Fatalf("Text(%s): %d", show(l), e)
		}
		if back, e := place.Parse(s); !slices.Equal(back, l) || e != api.OK {
			t.Fatalf("%q: %s, %d", s, show(back), e)
		}
	}
}

// P3.3: of any lists, those that are no stacks, too.
func TestCommon(t *testing.T) {
	odd := []place.Place{{"", -1}, {"a b", 1 << 30}}
	for _, x := range []struct {
		a, b []place.Place
		want int
	}{
		{stack("m:1 f:2 g:3"), stack("m:1 f:2 h:3"), 2},
		{stack("m:1"), stack("f:1"), 0},
		{nil, nil, 0},
		{nil, stack("m:1"), 0},
		{stack("m:1"), nil, 0},
		{stack("m:1"), stack("m:1"), 1},
		{stack("m:1"), stack("m:2"), 0},
		{stack("m:1 f:2"), stack("m:1"), 1},
		{stack("m:1"), stack("m:1 f:2"), 1},
		{stack("m:1 f:2 g:3"), stack("m:1 h:2 g:3"), 1},
		{stack("f:2 g:3"), stack("h:2 g:3"), 0},
		{odd, odd, 2},
		{odd, odd[:1], 1},
		{chain(1000), chain(900), 900},
	} {
		if n := place.Common(x.a, x.b); n != x.want {
			t.Errorf("Common(%s, %s): %d", show(x.a), show(x.b), n)
		}
	}
}

// P3.4.
func TestTrim(t *testing.T) {
	l := stack("m:1 lib.a:2 f:3 lib.b:4 lib.c:5")
	for _, x := range []struct {
		l        []place.Place
		prefixes []string
		want     []place.Place
	}{
		{l, []string{"lib."}, stack("m:1 lib.a:2 f:3")},
		{l, nil, l},
		{l, []string{}, l},
		{l, []string{"x", "ib."}, l},
		{l, []string{"m", "f"}, l},
		{l, []string{"lib.c"}, stack("m:1 lib.a:2 f:3 lib.b:4")},
		{l, []string{"lib.b"}, l},
		{l, []string{"lib.c", "lib.b"}, stack("m:1 lib.a:2 f:3")},
		{l, []string{"x", "lib.b", "y", "lib.c"}, stack("m:1 lib.a:2 f:3")},
		{l, []string{"lib.c:"}, l},
		{l, []string{"lib.c:5"}, l},
		{l, []string{"lib.cc"}, l},
		{l, []string{"f", "lib"}, stack("m:1")},
		{l, []string{"f", "lib", "m"}, nil},
		{l, []string{""}, nil},
		{l, []string{"x", ""}, nil},
		{nil, []string{""}, nil},
		{nil, nil, nil},
		{stack("lib.a:1"), []string{"lib."}, nil},
		{stack("a:1 b:2"), []string{"\xff", strings.Repeat("b", 500)}, stack("a:1 b:2")},
		{chain(64), []string{"f6"}, chain(60)},
	} {
		if got, e := place.Trim(x.l, x.prefixes); !slices.Equal(got, x.want) || e != api.OK {
			t.Errorf("Trim(%s, %.40q): %s, %d", show(x.l), x.prefixes, show(got), e)
		}
	}
	for _, x := range wrong() {
		for _, prefixes := range [][]string{nil, {""}, {"m", "f"}} {
			if got, e := place.Trim(x.l, prefixes); len(got) != 0 || e != x.e {
				t.Errorf("Trim(%s, %q): %s, %d", show(x.l), prefixes, show(got), e)
			}
		}
	}
}

// R3: what is handed in is not changed, and what is handed out shares nothing with it, or with other answers.
func TestNewMemory(t *testing.T) {
	l := append(make([]place.Place, 0, 8), stack("m:1 f:2 g:3")...)
	behind := l[:8]
	for _, prefixes := range [][]string{nil, {"g"}, {"g", "f", "m"}} {
		got, _ := place.Trim(l, prefixes)
		for i := range got {
			got[i] = place.Place{"x", 9}
		}
		_ = append(got, place.Place{"y", 9}, place.Place{"z", 9})
	}
	if !slices.Equal(l, stack("m:1 f:2 g:3")) || slices.ContainsFunc(behind[3:], func(p place.Place) bool { return p != place.Place{} }) {
		t.Error(behind)
	}
	one, _ := place.Parse("g:3 < f:2")
	two, _ := place.Parse("g:3 < f:2")
	one[0] = place.Place{"x", 9}
	if !slices.Equal(two, stack("f:2 g:3")) {
		t.Error(two)
	}
}
