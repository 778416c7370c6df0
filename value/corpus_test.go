package value_test

import (
	"math"
	"slices"
	"strings"

	"errata/api"
)

// What the tests are put together of.

var (
	nan     = math.NaN()
	inf     = math.Inf(1)
	minus0  = math.Copysign(0, -1)
	least   = math.SmallestNonzeroFloat64
	most    = math.MaxFloat64
	oddNaNs = []float64{
		math.Float64frombits(0x7FF8000000000000), math.Float64frombits(0x7FF8000000000001),
		math.Float64frombits(0xFFF8000000000000), math.Float64frombits(0x7FF0000000000001),
		math.Float64frombits(0xFFFFFFFFFFFFFFFF),
	}
)

func none() api.Value           { return api.Value{} }
func integer(n int64) api.Value { return api.Value{Kind: api.ValInt, Int: n} }
func float(x float64) api.Value { return api.Value{Kind: api.ValFloat, Re: x} }
func pair(re, im float64) api.Value {
	return api.Value{Kind: api.ValComplex, Re: re, Im: im}
}
func word(s string) api.Value           { return api.Value{Kind: api.ValText, Text: s} }
func raw(s string) api.Value            { return api.Value{Kind: api.ValBytes, Text: s} }
func list(items ...api.Value) api.Value { return api.Value{Kind: api.ValList, List: items} }

func boolean(is bool) api.Value {
	v := api.Value{Kind: api.ValBool}
	if is {
		v.Int = 1
	}
	return v
}

// nested is a list so deep.
func nested(deep int) api.Value {
	v := list()
	for range deep - 1 {
		v = list(v)
	}
	return v
}

// wide is a list of n items.
func wide(n int) api.Value {
	return list(make([]api.Value, n)...)
}

// looped is a list that stands within itself.
func looped() api.Value {
	items := make([]api.Value, 2)
	v := list(items...)
	items[0], items[1] = v, v
	return v
}

// ladder is values that may be, each ahead of the next one in the order.
func ladder() []api.Value {
	words := []string{"", "\x00", "\n", " ", "\"", "\\", "a", "a, b", "ab", "b", "\x7f", "\x80", "\xc3\xa9", "\xef\xbf\xbd", "\xff", "\xff\x00"}
	l := []api.Value{none(), boolean(false), boolean(true)}
	for _, n := range []int64{math.MinInt64, math.MinInt64 + 1, -5, -1, 0, 1, 2, 10, 258, 1 << 53, 1<<53 + 1, math.MaxInt64 - 1, math.MaxInt64} {
		l = append(l, integer(n))
	}
	for _, x := range []float64{nan, -inf, -most, -1e6, -1.5, -1, -1e-5, -least, minus0, 0, least, 1e-5, 1e-4, 0.1, 1, 1.5, 100000, 999999.5, 1e6, 1 << 53, 1e21, most, inf} {
		l = append(l, float(x))
	}
	for _, x := range [][2]float64{
		{nan, nan}, {nan, -inf}, {nan, 0}, {-inf, nan}, {-1e-7, -1e-7}, {minus0, nan}, {minus0, minus0}, {minus0, 0}, {minus0, 1},
		{0, nan}, {0, -inf}, {0, -1}, {0, minus0}, {0, 0}, {0, 1e+30}, {0, inf}, {1, 2}, {1e30, -1e30}, {inf, nan}, {inf, inf},
	} {
		l = append(l, pair(x[0], x[1]))
	}
	for _, s := range words {
		l = append(l, word(s))
	}
	l = append(l, word(strings.Repeat("\xff", api.MaxWord)))
	for _, s := range words {
		l = append(l, raw(s))
	}
	l = append(l, raw(strings.Repeat("\xff", api.MaxWord)))
	return append(l,
		list(), list(none()), list(none(), none()), wide(api.MaxTree-1), list(none(), word("a")),
		list(boolean(true)), list(integer(1)), list(integer(1), integer(2)), list(integer(1), integer(2), integer(3)),
		list(integer(1), float(nan)), list(integer(1), list()), list(integer(2)), list(float(nan)), list(float(minus0)), list(float(0)),
		list(pair(1, minus0)), list(pair(1, 0)), list(word("a")), list(word("a"), list(raw("a"))), list(raw("a")),
		list(list()), list(list(), none()), list(list(none())), nested(3), list(list(list(none()))), nested(api.MaxNest),
	)
}

// refused is values that may not be, by what is wrong with them.
func refused() map[string]api.Value {
	long := strings.Repeat("a", api.MaxWord+1)
	twice := wide(api.MaxTree / 2)
	doubled := none()
	for range api.MaxNest {
		doubled = list(doubled, doubled)
	}
	m := map[string]api.Value{
		"a kind that is none":            {Kind: 8},
		"the last kind that is none":     {Kind: 255},
		"a bool of 2":                    {Kind: api.ValBool, Int: 2},
		"a bool of -1":                   {Kind: api.ValBool, Int: -1},
		"a long text":                    word(long),
		"long bytes":                     raw(long),
		"a deep list":                    nested(api.MaxNest + 1),
		"many values":                    wide(api.MaxTree),
		"many values, of lists":          list(twice, wide(api.MaxTree/2-2)),
		"a list twice":                   list(twice, twice),
		"lists twice in lists twice":     doubled,
		"a list within itself":           looped(),
		"an item that may not be":        list(none(), api.Value{Kind: 8}),
		"an item of an item":             list(list(boolean(true)), list(list(api.Value{Kind: api.ValBool, Int: 2}))),
		"an int with a list that is bad": {Kind: api.ValInt, List: []api.Value{{Kind: 8}}},
	}
	for kind := range api.ValList + 1 {
		for field, v := range allFields(kind) {
			if !counts(kind, field) {
				m["kind "+string('0'+rune(kind))+" with "+field] = v
			}
		}
	}
	return m
}

// counts says whether a field counts in values of a kind, by the chapter's table.
func counts(kind uint8, field string) bool {
	fields := [...]string{"", "Int", "Int", "Re", "Re Im", "Text", "Text", "List"}
	return strings.Contains(fields[kind], strings.Fields(field)[0])
}

// allFields is values of a kind, with one field that is not zero in each.
func allFields(kind uint8) map[string]api.Value {
	return map[string]api.Value{
		"Int":      {Kind: kind, Int: 1},
		"Re 1":     {Kind: kind, Re: 1},
		"Re -0":    {Kind: kind, Re: minus0},
		"Re NaN":   {Kind: kind, Re: nan},
		"Im 1":     {Kind: kind, Im: 1},
		"Im -0":    {Kind: kind, Im: minus0},
		"Im NaN":   {Kind: kind, Im: nan},
		"Text":     {Kind: kind, Text: "a"},
		"List one": {Kind: kind, List: []api.Value{{}}},
	}
}

// alike says whether two values are alike field by field, NaN as NaN.
func alike(a, b api.Value) bool {
	if a.Kind != b.Kind || a.Int != b.Int || a.Text != b.Text || !alikeFloats(a.Re, b.Re) || !alikeFloats(a.Im, b.Im) {
		return false
	}
	return slices.EqualFunc(a.List, b.List, alike)
}

func alikeFloats(x, y float64) bool {
	return x != x && y != y || math.Float64bits(x) == math.Float64bits(y)
}

// zero says whether nothing of a value is set.
func zero(v api.Value) bool { return alike(v, api.Value{}) }
