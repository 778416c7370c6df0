package value_test

import (
	"math"
	"strings"
	"testing"

	"errata/api"
	"errata/value"
)

// P2.4: the sums.
func TestPlusExamples(t *testing.T) {
	for _, x := range []struct{ a, b, want api.Value }{
		{integer(2), integer(3), integer(5)},
		{integer(math.MaxInt64), integer(1), integer(math.MinInt64)},
		{integer(math.MinInt64), integer(math.MinInt64), integer(0)},
		{integer(math.MinInt64), integer(-1), integer(math.MaxInt64)},
		{integer(1), float(0.5), float(1.5)},
		{float(0.5), integer(1), float(1.5)},
		{integer(9007199254740993), float(0), float(9007199254740992)},
		{integer(9007199254740995), float(0), float(9007199254740996)},
		{integer(-9007199254740993), float(0), float(-9007199254740992)},
		{float(0), integer(math.MaxInt64), float(1 << 63)},
		{integer(0), float(minus0), float(0)},
		{float(minus0), float(minus0), float(minus0)},
		{float(0.1), float(0.2), float(0.30000000000000004)},
		{float(most), float(most), float(inf)},
		{float(inf), float(-inf), float(nan)},
		{float(nan), integer(1), float(nan)},
		{float(0.5), pair(1, 2), pair(1.5, 2)},
		{pair(1, 2), float(0.5), pair(1.5, 2)},
		{float(minus0), pair(minus0, minus0), pair(minus0, 0)},
		{integer(0), pair(minus0, minus0), pair(0, 0)},
		{integer(9007199254740993), pair(0, 1), pair(9007199254740992, 1)},
		{pair(1, 2), integer(3), pair(4, 2)},
		{pair(1, 2), pair(0.5, -2), pair(1.5, 0)},
		{pair(inf, nan), pair(1, 2), pair(inf, nan)},
		{pair(1, inf), pair(nan, 1), pair(nan, inf)},
		{pair(minus0, minus0), pair(minus0, minus0), pair(minus0, minus0)},
		{word("a"), word("b"), word("ab")},
		{word("\xc3"), word("\xa9"), word("\xc3\xa9")},
		{word(""), word(""), word("")},
		{raw("a"), raw("b"), raw("ab")},
		{raw(""), raw(""), raw("")},
		{list(integer(1)), list(integer(2), none()), list(integer(1), integer(2), none())},
		{list(), list(), list()},
		{list(list()), list(list()), list(list(), list())},
		{boolean(false), boolean(false), boolean(false)},
		{boolean(true), boolean(false), boolean(true)},
		{boolean(false), boolean(true), boolean(true)},
		{boolean(true), boolean(true), boolean(true)},
		{none(), word("a"), word("a")},
	} {
		if v, e := value.Plus(x.a, x.b); e != api.OK || !alike(v, x.want) {
			t.Errorf("Plus(%v, %v): %v, %d", x.a, x.b, v, e)
		}
	}
}

// P2.4: none and another, on either side; the other is none, too.
func TestPlusNone(t *testing.T) {
	for _, v := range ladder() {
		for _, two := range [][2]api.Value{{none(), v}, {v, none()}} {
			if s, e := value.Plus(two[0], two[1]); e != api.OK || !alike(s, v) {
				t.Errorf("none and %.60v: %.60v, %d", v, s, e)
			}
		}
	}
}

// P2.4: of which kinds there are sums.
func TestPlusUnlike(t *testing.T) {
	number := func(v api.Value) bool {
		return v.Kind == api.ValInt || v.Kind == api.ValFloat || v.Kind == api.ValComplex
	}
	few := []api.Value{none(), boolean(true), integer(1), float(1), pair(1, 1), word("a"), raw("a"), list(none())}
	for _, a := range few {
		for _, b := range few {
			goes := a.Kind == b.Kind || a.Kind == api.ValNone || b.Kind == api.ValNone || number(a) && number(b)
			v, e := value.Plus(a, b)
			if goes && e != api.OK || !goes && (e != api.ErrUnlike || !zero(v)) {
				t.Errorf("Plus(%v, %v): %v, %d", a, b, v, e)
			}
		}
	}
}

// P2.4, and the order of the section 'Errors': a sum that may not be, and one that just may.
func TestPlusBounds(t *testing.T) {
	half := strings.Repeat("a", api.MaxWord/2)
	for _, x := range []struct {
		a, b api.Value
		e    api.Errno
	}{
		{word(half), word(half), api.OK},
		{word(half), word(half + "a"), api.ErrValue},
		{raw(half), raw(half), api.OK},
		{raw(half), raw(half + "a"), api.ErrValue},
		{wide(1000), wide(23), api.OK},
		{wide(1000), wide(24), api.ErrValue},
		{list(wide(1000)), list(wide(20)), api.OK},
		{list(wide(1000)), list(wide(22)), api.ErrValue},
		{nested(api.MaxNest), nested(api.MaxNest), api.OK},
		{word(half + half), wide(1000), api.ErrUnlike},
	} {
		v, e := value.Plus(x.a, x.b)
		if e != x.e || e != api.OK && !zero(v) {
			t.Errorf("Plus(%.40v, %.40v): %.40v, %d", x.a, x.b, v, e)
		}
		if e == api.OK && len(v.Text)+len(v.List) != len(x.a.Text)+len(x.b.Text)+len(x.a.List)+len(x.b.List) {
			t.Errorf("Plus(%.40v, %.40v): %.40v", x.a, x.b, v)
		}
	}
}

// P2.4, with R3: the sum shares no list, nor a list's spare room, with what was summed; nor do its lists share any.
func TestPlusIsNew(t *testing.T) {
	inner := append(make([]api.Value, 0, 4), integer(1))
	room := append(make([]api.Value, 0, 4), list(inner...), list(inner...))
	a := list(room...)
	for _, two := range [][2]api.Value{{a, a}, {a, list()}, {list(), a}, {a, none()}, {none(), a}} {
		v, e := value.Plus(two[0], two[1])
		if e != api.OK || len(v.List) < 2 {
			t.Fatal(v, e)
		}
		for i := range v.List {
			if !alike(v.List[i], list(integer(1))) {
				t.Error("two lists of one sum share memory:", v)
			}
			_ = append(v.List[i].List, word("more"))
			v.List[i].List[0] = word("changed")
		}
		_ = append(v.List, word("more"))
		v.List[0] = word("changed")
		if !alike(list(room[:4]...), list(list(integer(1)), list(integer(1)), none(), none())) || !alike(list(inner[:4]...), list(integer(1), none(), none(), none())) {
			t.Error("what was summed has changed:", a)
		}
	}
}

// P2.7: (a and b) and c is a and (b and c).
func TestPlusOfThree(t *testing.T) {
	of := map[uint8][]api.Value{}
	for _, v := range ladder() {
		of[v.Kind] = append(of[v.Kind], v)
	}
	for _, kind := range []uint8{api.ValInt, api.ValText, api.ValBytes, api.ValList} {
		for _, a := range of[kind] {
			for _, b := range of[kind] {
				ab, e1 := value.Plus(a, b)
				for _, c := range of[kind] {
					bc, e2 := value.Plus(b, c)
					left, e3 := value.Plus(ab, c)
					right, e4 := value.Plus(a, bc)
					if e1 == api.OK && e2 == api.OK && e3 == api.OK && e4 == api.OK && !alike(left, right) {
						t.Fatalf("%.40v, %.40v, %.40v: %.40v, %.40v", a, b, c, left, right)
					}
				}
			}
		}
	}
}
