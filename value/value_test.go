package value_test

import (
	"cmp"
	"math"
	"slices"
	"strings"
	"testing"

	"errata/api"
	"errata/value"
)

// P2.1: what may be, to the bounds.
func TestCheckTakes(t *testing.T) {
	for i, v := range ladder() {
		if e := value.Check(v); e != api.OK {
			t.Errorf("%d: %.60v: %d", i, v, e)
		}
	}
	for name, v := range map[string]api.Value{
		"a text of MaxWord":       word(strings.Repeat("a", api.MaxWord)),
		"a list of MaxNest":       nested(api.MaxNest),
		"a deep list that is not": list(nested(api.MaxNest-1), none()),
		"a tree of MaxTree":       wide(api.MaxTree - 1),
		"a tree of two lists":     list(wide(api.MaxTree/2), wide(api.MaxTree/2-3)),
		"no list, but made":       {Kind: api.ValInt, List: []api.Value{}},
		"none, a list made":       {List: make([]api.Value, 0, 3)},
		"nan":                     float(oddNaNs[3]),
		"nans":                    pair(oddNaNs[2], oddNaNs[4]),
	} {
		if e := value.Check(v); e != api.OK {
			t.Errorf("%s: %d", name, e)
		}
	}
}

// P2.1: what may not be; and a field that does not count.
func TestCheckRefuses(t *testing.T) {
	for name, v := range refused() {
		if e := value.Check(v); e != api.ErrValue {
			t.Errorf("%s: %d", name, e)
		}
	}
	for kind := range api.ValList + 1 {
		for field, v := range allFields(kind) {
			if e := value.Check(v); (e == api.OK) != counts(kind, field) {
				t.Errorf("kind %d with %s: %d", kind, field, e)
			}
		}
	}
}

// The section 'Errors': a value that may not be is refused by each call, and nothing else is answered (R4).
func TestErrors(t *testing.T) {
	if api.ErrValue != 20 || api.ErrUnlike != 21 || api.ErrForm != 4 {
		t.Error(api.ErrValue, api.ErrUnlike, api.ErrForm)
	}
	ok := word("a")
	for name, bad := range refused() {
		if g, e := value.Any(bad); g != nil || e != api.ErrValue {
			t.Errorf("Any, %s: %v, %d", name, g, e)
		}
		if s, e := value.Text(bad); s != "" || e != api.ErrValue {
			t.Errorf("Text, %s: %q, %d", name, s, e)
		}
		if s, e := value.Encode(bad); s != "" || e != api.ErrValue {
			t.Errorf("Encode, %s: %q, %d", name, s, e)
		}
		for _, two := range [][2]api.Value{{bad, ok}, {ok, bad}, {bad, bad}, {bad, none()}, {none(), bad}} {
			a, b := two[0], two[1]
			if n, e := value.Same(a, b); n != 0 || e != api.ErrValue {
				t.Errorf("Same, %s: %d, %d", name, n, e)
			}
			if n, e := value.Compare(a, b); n != 0 || e != api.ErrValue {
				t.Errorf("Compare, %s: %d, %d", name, n, e)
			}
			if v, e := value.Plus(a, b); !zero(v) || e != api.ErrValue {
				t.Errorf("Plus, %s: %v, %d", name, v, e)
			}
		}
	}
}

// isGo says whether g is v's Go value, as the chapter's table has it.
func isGo(g any, v api.Value) bool {
	switch v.Kind {
	case api.ValNone:
		return g == nil
	case api.ValBool:
		x, ok := g.(bool)
		return ok && x == (v.Int == 1)
	case api.ValInt:
		x, ok := g.(int64)
		return ok && x == v.Int
	case api.ValFloat:
		x, ok := g.(float64)
		return ok && alikeFloats(x, v.Re)
	case api.ValComplex:
		x, ok := g.(complex128)
		return ok && alikeFloats(real(x), v.Re) && alikeFloats(imag(x), v.Im)
	case api.ValText:
		x, ok := g.(string)
		return ok && x == v.Text
	case api.ValBytes:
		x, ok := g.([]byte)
		return ok && x != nil && string(x) == v.Text
	}
	x, ok := g.([]any)
	return ok && x != nil && slices.EqualFunc(x, v.List, isGo)
}

// P2.1.
func TestAny(t *testing.T) {
	for _, v := range append(ladder(), list(list(), raw("")), api.Value{Kind: api.ValList, List: []api.Value{}}) {
		if g, e := value.Any(v); e != api.OK || !isGo(g, v) {
			t.Errorf("Any(%.60v): %.60v, %d", v, g, e)
		}
	}
}

// P2.1, with R3: new memory, to the last list, and its spare room.
func TestAnyIsNew(t *testing.T) {
	inner := list(integer(1), raw("abc"))
	v := list(inner, inner, raw("abc"), raw("abc"))
	first, _ := value.Any(v)
	items := first.([]any)
	for i := range 2 {
		l := items[i].([]any)
		l[0] = "changed"
		copy(l[1].([]byte), "xyz")
		_ = append(l, "more")
		if i == 0 && !isGo(items[1], inner) {
			t.Error("two lists of one answer share memory")
		}
	}
	b := items[2].([]byte)
	b = append(b, b[:cap(b)-len(b)]...)
	copy(b, "xyz")
	if !isGo(items[3], raw("abc")) {
		t.Error("the bytes of one answer share memory")
	}
	if again, e := value.Any(v); e != api.OK || !isGo(again, v) || !alike(v.List[1], list(integer(1), raw("abc"))) {
		t.Error("what was handed in has changed:", v)
	}
	held, _ := value.Any(v)
	v.List[0].List[0] = integer(7)
	if !isGo(held.([]any)[0].([]any)[0], integer(1)) {
		t.Error("what was handed in is kept")
	}
}

// P2.2: the examples, and the noughts, NaN, and kinds beside one another.
func TestSameExamples(t *testing.T) {
	for _, x := range []struct {
		a, b api.Value
		want int
	}{
		{float(1), float(1), api.Same},
		{float(nan), float(nan), api.Unlike},
		{float(minus0), float(0), api.Same},
		{integer(1), float(1), api.Unlike},
		{raw(""), raw("a"), api.Panics},
		{raw("a"), raw("a"), api.Panics},
		{raw("a"), list(), api.Unlike},
		{raw("a"), word("a"), api.Unlike},
		{list(), list(), api.Panics},
		{list(none()), list(integer(1)), api.Panics},
		{none(), none(), api.Same},
		{none(), boolean(false), api.Unlike},
		{none(), list(), api.Unlike},
		{none(), raw(""), api.Unlike},
		{boolean(true), integer(1), api.Unlike},
		{boolean(true), boolean(true), api.Same},
		{boolean(true), boolean(false), api.Unlike},
		{word("a"), word("a"), api.Same},
		{word("a"), word("b"), api.Unlike},
		{pair(1, 2), pair(1, 2), api.Same},
		{pair(1, 2), pair(1, 3), api.Unlike},
		{pair(3, 2), pair(1, 2), api.Unlike},
		{pair(0, minus0), pair(minus0, 0), api.Same},
		{pair(nan, 0), pair(nan, 0), api.Unlike},
		{pair(0, nan), pair(0, nan), api.Unlike},
		{pair(1, 0), float(1), api.Unlike},
	} {
		if n, e := value.Same(x.a, x.b); n != x.want || e != api.OK {
			t.Errorf("Same(%v, %v): %d, %d", x.a, x.b, n, e)
		}
	}
}

// P2.2: of any two values.
func TestSameOfAny(t *testing.T) {
	all := ladder()
	for i, a := range all {
		for j, b := range all {
			want := api.Unlike
			switch {
			case a.Kind == b.Kind && (a.Kind == api.ValBytes || a.Kind == api.ValList):
				want = api.Panics
			case a.Kind == b.Kind && a.Int == b.Int && a.Re == b.Re && a.Im == b.Im && a.Text == b.Text:
				want = api.Same
			}
			if n, e := value.Same(a, b); n != want || e != api.OK {
				t.Errorf("Same of %d and %d: %d, %d", i, j, n, e)
			}
		}
	}
}

// P2.3: the examples.
func TestCompareExamples(t *testing.T) {
	for _, x := range []struct {
		a, b api.Value
		want int8
	}{
		{float(nan), float(-inf), -1},
		{float(nan), float(nan), 0},
		{float(minus0), float(0), -1},
		{float(0), float(minus0), 1},
		{boolean(true), integer(0), -1},
		{list(integer(1)), list(integer(1), integer(2)), -1},
		{list(integer(2)), list(integer(1), integer(2)), 1},
		{word("b"), word("a\xff"), 1},
		{integer(math.MinInt64), integer(math.MaxInt64), -1},
	} {
		if n, e := value.Compare(x.a, x.b); n != x.want || e != api.OK {
			t.Errorf("Compare(%v, %v): %d, %d", x.a, x.b, n, e)
		}
	}
}

// P2.3 and P2.7: the ladder stands in its order, so that it goes from one to the next; 0 of each and itself alone.
func TestCompareIsAnOrder(t *testing.T) {
	all := ladder()
	for i, a := range all {
		for j, b := range all {
			if n, e := value.Compare(a, b); n != int8(cmp.Compare(i, j)) || e != api.OK {
				t.Errorf("Compare of %d and %d: %d, %d", i, j, n, e)
			}
			if alike(a, b) != (i == j) {
				t.Errorf("the tests' own ladder: %d and %d", i, j)
			}
		}
	}
}

// P2.3: all NaN are alike.
func TestCompareNaNs(t *testing.T) {
	for _, x := range oddNaNs {
		for _, y := range oddNaNs {
			for _, two := range [][2]api.Value{
				{float(x), float(y)}, {pair(x, 1), pair(y, 1)}, {pair(1, x), pair(1, y)}, {list(float(x)), list(float(y))},
			} {
				if n, e := value.Compare(two[0], two[1]); n != 0 || e != api.OK {
					t.Errorf("Compare(%v, %v): %d, %d", two[0], two[1], n, e)
				}
			}
			if n, _ := value.Compare(pair(x, 1), pair(y, 2)); n != -1 {
				t.Error("NaN ahead of the second part:", n)
			}
		}
	}
}

// P2.7: Same only where Compare tells 0, or would without signs of noughts.
func TestSameAndCompare(t *testing.T) {
	plain := func(v api.Value) api.Value {
		v.Re, v.Im = v.Re+0, v.Im+0
		return v
	}
	all := ladder()
	for _, a := range all {
		for _, b := range all {
			n, _ := value.Same(a, b)
			way, _ := value.Compare(plain(a), plain(b))
			if n == api.Same && way != 0 {
				t.Errorf("%v and %v: %d, %d", a, b, n, way)
			}
		}
	}
}
