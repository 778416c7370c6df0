package value_test

import (
	"math"
	"strconv"
	"strings"
	"testing"

	"errata/api"
	"errata/text"
	"errata/value"
)

// texts is values with their texts, the chapter's examples and more.
func texts() []struct {
	v api.Value
	s string
} {
	return []struct {
		v api.Value
		s string
	}{
		{none(), "none"},
		{boolean(true), "true"},
		{boolean(false), "false"},
		{integer(-5), "-5"},
		{integer(0), "0"},
		{integer(math.MinInt64), "-9223372036854775808"},
		{integer(math.MaxInt64), "9223372036854775807"},
		{float(1), "1.0"},
		{float(-1), "-1.0"},
		{float(100000), "100000.0"},
		{float(999999), "999999.0"},
		{float(123456.75), "123456.75"},
		{float(1e6), "1e+06"},
		{float(1234567), "1.234567e+06"},
		{float(1e21), "1e+21"},
		{float(0.0001), "0.0001"},
		{float(0.00001), "1e-05"},
		{float(0.1), "0.1"},
		{float(0.30000000000000004), "0.30000000000000004"},
		{float(most), "1.7976931348623157e+308"},
		{float(least), "5e-324"},
		{float(0), "0.0"},
		{float(minus0), "-0.0"},
		{float(nan), "NaN"},
		{float(inf), "+Inf"},
		{float(-inf), "-Inf"},
		{pair(1, 2), "(1.0+2.0i)"},
		{pair(1, -2), "(1.0-2.0i)"},
		{pair(0, -inf), "(0.0-Infi)"},
		{pair(inf, inf), "(+Inf+Infi)"},
		{pair(nan, nan), "(NaN+NaNi)"},
		{pair(nan, inf), "(NaN+Infi)"},
		{pair(minus0, minus0), "(-0.0-0.0i)"},
		{pair(1e-5, 1e21), "(1e-05+1e+21i)"},
		{pair(-1e21, -1e-5), "(-1e+21-1e-05i)"},
		{word(""), `""`},
		{word("a"), `"a"`},
		{word("a\n\xff\\\""), `"a\x0a\xff\\\""`},
		{word("\xc3\xa9, ]"), "\"\xc3\xa9, ]\""},
		{raw(""), `x""`},
		{raw("\x00\xff"), `x"00ff"`},
		{raw("a\n"), `x"610a"`},
		{list(), "[]"},
		{list(none(), word("a")), `[none, "a"]`},
		{list(list(), list(pair(1, 2), raw("a")), boolean(true), integer(-1), float(nan)), `[[], [(1.0+2.0i), x"61"], true, -1, NaN]`},
		{nested(api.MaxNest), strings.Repeat("[", api.MaxNest) + strings.Repeat("]", api.MaxNest)},
	}
}

// P2.5.
func TestTextExamples(t *testing.T) {
	for _, x := range texts() {
		if s, e := value.Text(x.v); s != x.s || e != api.OK {
			t.Errorf("Text(%v): %q, %d, not %q", x.v, s, e, x.s)
		}
		if v, e := value.Parse(x.s); !alike(v, x.v) || e != api.OK {
			t.Errorf("Parse(%q): %v, %d", x.s, v, e)
		}
		switch x.v.Kind {
		case api.ValFloat:
			if s := value.Float(x.v.Re); s != x.s {
				t.Errorf("Float(%v): %q", x.v.Re, s)
			}
		case api.ValComplex:
			if s := value.Complex(complex(x.v.Re, x.v.Im)); s != x.s {
				t.Errorf("Complex(%v, %v): %q", x.v.Re, x.v.Im, s)
			}
		}
	}
}

// manyFloats is floats all over the range, by their bits.
func manyFloats() []float64 {
	var l []float64
	bits := uint64(1)
	for range 20000 {
		bits = bits*6364136223846793005 + 1442695040888963407
		l = append(l, math.Float64frombits(bits))
	}
	for e := -330; e < 312; e++ {
		x, _ := strconv.ParseFloat("1e"+strconv.Itoa(e), 64)
		l = append(l, x, -x, math.Nextafter(x, inf), math.Nextafter(x, -inf), 3*x)
	}
	return append(l, oddNaNs...)
}

// P2.5: a float's text tells it from all others, is short, and has a point or an e.
func TestFloatOfAny(t *testing.T) {
	for _, x := range manyFloats() {
		s := value.Float(x)
		plain := strings.TrimSuffix(s, ".0")
		switch {
		case x != x || x-x != 0:
			if s != map[bool]string{true: "NaN", false: "+Inf"}[x != x] && s != "-Inf" {
				t.Errorf("%x: %q", math.Float64bits(x), s)
			}
			continue
		case strings.ContainsAny(plain, ".e") != (plain == s):
			t.Errorf("%x: %q", math.Float64bits(x), s)
		case plain != strconv.FormatFloat(x, 'g', -1, 64):
			t.Errorf("%x: %q", math.Float64bits(x), s)
		}
		if y, err := strconv.ParseFloat(s, 64); err != nil || !alikeFloats(x, y) {
			t.Errorf("%x: %q is %v", math.Float64bits(x), s, y)
		}
		if v, e := value.Parse(s); e != api.OK || !alike(v, float(x)) {
			t.Errorf("Parse(%q): %v, %d", s, v, e)
		}
	}
}

// P2.5: a complex number's text, and back.
func TestComplexOfAny(t *testing.T) {
	all := manyFloats()
	all = append(all, 0, minus0, inf, -inf, 1, -1, 1e-7, -1e30)
	for i, re := range all {
		im := all[len(all)-1-i]
		s := value.Complex(complex(re, im))
		want := value.Float(im)
		if strings.Trim(want[:1], "0123456789N") == "" {
			want = "+" + want
		}
		if want = "(" + value.Float(re) + want + "i)"; s != want {
			t.Errorf("Complex(%v, %v): %q", re, im, s)
		}
		if v, e := value.Parse(s); e != api.OK || !alike(v, pair(re, im)) {
			t.Errorf("Parse(%q): %v, %d", s, v, e)
		}
	}
}

// P2.5: texts and bytes, byte by byte.
func TestTextOfBytes(t *testing.T) {
	const digits = "0123456789abcdef"
	for n := range 1 << 16 {
		s := string([]byte{byte(n >> 8), byte(n)})
		if got, e := value.Text(word(s)); got != text.Quote(s) || e != api.OK {
			t.Fatalf("the text %x: %q", s, got)
		}
		want := `x"` + string([]byte{digits[n>>12], digits[n>>8&15], digits[n>>4&15], digits[n&15]}) + `"`
		got, e := value.Text(raw(s))
		if got != want || e != api.OK {
			t.Fatalf("the bytes %x: %q", s, got)
		}
		if v, e := value.Parse(want); e != api.OK || !alike(v, raw(s)) {
			t.Fatalf("Parse(%q): %v, %d", want, v, e)
		}
	}
}

// P2.5: texts of no value.
func TestParseRefuses(t *testing.T) {
	for _, s := range []string{
		"", " ", "1.50", "01", "+1", "[ ]", "true ", "1e+21 ", " true", "True", "TRUE", "nil", "None", "tru", "truee",
		"-", "+", "--1", "-0", "00", "1_0", "0x1", "0b1", "1 ", "9223372036854775808", "-9223372036854775809", "1,", "1, 2", "1]",
		"1.", ".5", "-.5", "1e6", "1e+6", "1e+006", "1E+06", "1.0e+06", "1000000.0", "1e+05", "0.00001", "1e-4", "1e-04", "0.10", "00.1",
		"+1.0", "1.0 ", "1e+400", "-1e+400", "1e", "e", "nan", "NAN", "+NaN", "-NaN", "Inf", "inf", "+inf", "+Infinity", "infinity", "-INF", "0x1p-2", "1.0f", "1__0.0",
		"0.30000000000000004000", "5e-325", "1e-400", "0.1000000000000000055511151231257827",
		"(", "()", "(i)", "(1.0i)", "(1.0+i)", "(+2.0i)", "(1.0+2.0)", "(1.0+2.0i", "1.0+2.0i", "(1.0+2.0i) ", "(1.0++2.0i)", "(1.0+-2.0i)", "(1.0 + 2.0i)",
		"(1+2i)", "(1.0+2i)", "(+1.0+2.0i)", "(1.0-NaNi)", "(1.0NaNi)", "(NaNNaNi)", "(1.0Infi)", "(1.0++Infi)", "(Inf+1.0i)", "(1.0+2.0j)", "((1.0+2.0i)i)", "(1.0+2.0+3.0i)", "(1e-05+)", "(e+1.0i)",
		`"`, `"a`, `a"`, `""a`, `"a" `, `"\x41"`, `"\xFF"`, `"\xc3\xa9"`, "\"\n\"", "\"\xff\"", `"a""b"`, `'a'`,
		"x", `x"`, `x""x`, `x"0"`, `x"0g"`, `x"FF"`, `x"0 "`, `x"00`, `X"00"`, `x "00"`, `x"\x30\x30"`, `x"00" `, "x00", `x"é"`, `""x`,
		"[", "]", "[]]", "[[]", "[,]", "[1,]", "[1,2]", "[1 , 2]", "[1,  2]", "[1, ]", "[, 1]", "[ 1]", "[1 ]", "[1, 2", "[1, 2, ]", "[1;2]", "[] ", " []", "[][]", "[1][2]", "[none,none]", "[\"a\" , 1]", "[(1.0+2.0i]", "[1, 2]]",
		"none ", "none, none", "none]",
	} {
		if v, e := value.Parse(s); !zero(v) || e != api.ErrForm {
			t.Errorf("Parse(%q): %v, %d", s, v, e)
		}
	}
}

// P2.5: texts of what may not be, and of what just may.
func TestParseBounds(t *testing.T) {
	flat := func(n int) string { return "[" + strings.TrimSuffix(strings.Repeat("none, ", n), ", ") + "]" }
	lists := func(n int) string { return strings.Repeat("[", n) + strings.Repeat("]", n) }
	for _, x := range []struct {
		name, s string
		ok      bool
	}{
		{"a long text", `"` + strings.Repeat("a", api.MaxWord) + `"`, true},
		{"a longer text", `"` + strings.Repeat("a", api.MaxWord+1) + `"`, false},
		{"a long text of digits", `"` + strings.Repeat(`\xff`, api.MaxWord) + `"`, true},
		{"long bytes", `x"` + strings.Repeat("a0", api.MaxWord) + `"`, true},
		{"longer bytes", `x"` + strings.Repeat("a0", api.MaxWord+1) + `"`, false},
		{"many values", flat(api.MaxTree - 1), true},
		{"more values", flat(api.MaxTree), false},
		{"deep lists", lists(api.MaxNest), true},
		{"deeper lists", lists(api.MaxNest + 1), false},
		{"lists without end", strings.Repeat("[", 1<<20), false},
		{"values without end", "[" + strings.Repeat("none, ", 1<<18), false},
		{"quotes without end", `["` + strings.Repeat("a", 1<<20), false},
		{"digits without end", strings.Repeat("1", 1<<20), false},
		{"a point, and digits", "0." + strings.Repeat("3", 1<<20), false},
		{"a part, and digits", "(" + strings.Repeat("1", 1<<20) + "+1.0i)", false},
	} {
		v, e := value.Parse(x.s)
		if x.ok != (e == api.OK) || !x.ok && (e != api.ErrForm || !zero(v)) {
			t.Errorf("%s: %.40v, %d", x.name, v, e)
		}
		if s, _ := value.Text(v); x.ok && s != x.s {
			t.Errorf("%s: %.40q", x.name, s)
		}
	}
}

// P2.7: Parse of Text is the value; two values have one text just if Compare tells 0.
func TestTextAndBack(t *testing.T) {
	seen := map[string]int{}
	for i, v := range ladder() {
		s, e := value.Text(v)
		if e != api.OK {
			t.Fatal(i, e)
		}
		if back, e := value.Parse(s); e != api.OK || !alike(back, v) {
			t.Errorf("Parse(%.60q): %.60v, %d", s, back, e)
		}
		if at, is := seen[s]; is {
			t.Errorf("%d and %d have one text: %.60q", at, i, s)
		}
		seen[s] = i
	}
	for _, x := range oddNaNs {
		if s, _ := value.Text(list(float(x), pair(x, x))); s != "[NaN, (NaN+NaNi)]" {
			t.Errorf("%x: %q", math.Float64bits(x), s)
		}
	}
}

// P2.7: Text of what Parse tells is the text: of all short texts of bytes that matter, and of texts that are nearly one.
func TestParseAndBack(t *testing.T) {
	told := 0
	try := func(s string) {
		v, e := value.Parse(s)
		if e != api.OK {
			if e != api.ErrForm || !zero(v) {
				t.Fatalf("Parse(%q): %v, %d", s, v, e)
			}
			return
		}
		told++
		if back, e := value.Text(v); back != s || e != api.OK {
			t.Fatalf("Text of Parse(%q): %q, %d", s, back, e)
		}
	}
	const bytes = "019-+.e\"x\\f[], ()i"
	all := []string{""}
	for range 4 {
		var longer []string
		for _, s := range all {
			try(s)
			for i := range len(bytes) {
				longer = append(longer, s+bytes[i:i+1])
			}
		}
		all = longer
	}
	for _, s := range all {
		try(s)
	}
	for _, x := range texts() {
		for i := range len(x.s) {
			try(x.s[:i] + x.s[i+1:])
			for j := range len(bytes) {
				try(x.s[:i] + bytes[j:j+1] + x.s[i:])
				try(x.s[:i] + bytes[j:j+1] + x.s[i+1:])
			}
		}
	}
	if told < 1000 {
		t.Error("texts of values among them:", told)
	}
}
