package value_test

import (
	"math"
	"strings"
	"testing"

	"errata/api"
	"errata/value"
)

const eightNoughts = "\x00\x00\x00\x00\x00\x00\x00\x00"

// encoded is values with their bytes, the chapter's examples and more.
func encoded() []struct {
	v api.Value
	s string
} {
	return []struct {
		v api.Value
		s string
	}{
		{none(), "\x00"},
		{boolean(false), "\x01\x00"},
		{boolean(true), "\x01\x01"},
		{integer(258), "\x02\x00\x00\x00\x00\x00\x00\x01\x02"},
		{integer(-1), "\x02\xff\xff\xff\xff\xff\xff\xff\xff"},
		{integer(math.MinInt64), "\x02\x80\x00\x00\x00\x00\x00\x00\x00"},
		{integer(0x0102030405060708), "\x02\x01\x02\x03\x04\x05\x06\x07\x08"},
		{float(0), "\x03" + eightNoughts},
		{float(minus0), "\x03\x80\x00\x00\x00\x00\x00\x00\x00"},
		{float(1), "\x03\x3f\xf0\x00\x00\x00\x00\x00\x00"},
		{float(least), "\x03\x00\x00\x00\x00\x00\x00\x00\x01"},
		{float(inf), "\x03\x7f\xf0\x00\x00\x00\x00\x00\x00"},
		{float(-inf), "\x03\xff\xf0\x00\x00\x00\x00\x00\x00"},
		{float(nan), "\x03\x7f\xf8\x00\x00\x00\x00\x00\x00"},
		{pair(1, 0), "\x04\x3f\xf0\x00\x00\x00\x00\x00\x00" + eightNoughts},
		{pair(nan, -1), "\x04\x7f\xf8\x00\x00\x00\x00\x00\x00\xbf\xf0\x00\x00\x00\x00\x00\x00"},
		{word("a"), "\x05\x00\x01a"},
		{word(""), "\x05\x00\x00"},
		{word(strings.Repeat("b", 258)), "\x05\x01\x02" + strings.Repeat("b", 258)},
		{raw("a"), "\x06\x00\x01a"},
		{raw("\x00\xff"), "\x06\x00\x02\x00\xff"},
		{list(), "\x07\x00\x00"},
		{list(none()), "\x07\x00\x01\x00"},
		{wide(258), "\x07\x01\x02" + strings.Repeat("\x00", 258)},
		{list(list(word("a")), boolean(true)), "\x07\x00\x02\x07\x00\x01\x05\x00\x01a\x01\x01"},
	}
}

// P2.6.
func TestEncodeExamples(t *testing.T) {
	for _, x := range encoded() {
		if s, e := value.Encode(x.v); s != x.s || e != api.OK {
			t.Errorf("Encode(%.60v): %.60x, %d", x.v, s, e)
		}
		if v, e := value.Decode(x.s); !alike(v, x.v) || e != api.OK {
			t.Errorf("Decode(%.60x): %.60v, %d", x.s, v, e)
		}
	}
}

// P2.6: every NaN is told by the same bytes, and by no others.
func TestEncodeNaNs(t *testing.T) {
	const want = "\x7f\xf8\x00\x00\x00\x00\x00\x00"
	for _, x := range oddNaNs {
		if s, e := value.Encode(float(x)); s != "\x03"+want || e != api.OK {
			t.Errorf("%x: %x, %d", math.Float64bits(x), s, e)
		}
		if s, e := value.Encode(list(pair(x, x))); s != "\x07\x00\x01\x04"+want+want || e != api.OK {
			t.Errorf("%x: %x, %d", math.Float64bits(x), s, e)
		}
	}
	for _, other := range []string{
		"\x7f\xf8\x00\x00\x00\x00\x00\x01", "\xff\xf8\x00\x00\x00\x00\x00\x00", "\x7f\xf0\x00\x00\x00\x00\x00\x01", "\xff\xff\xff\xff\xff\xff\xff\xff",
	} {
		for _, s := range []string{"\x03" + other, "\x04" + other + want, "\x04" + want + other, "\x07\x00\x01\x03" + other} {
			if v, e := value.Decode(s); !zero(v) || e != api.ErrForm {
				t.Errorf("Decode(%x): %v, %d", s, v, e)
			}
		}
	}
}

// P2.6: bytes of no value; also: all that is cut off, and a byte more.
func TestDecodeRefuses(t *testing.T) {
	l := []string{
		"", "\x08", "\xff", "\x80", "\x01\x02", "\x01\xff", "\x07\x00\x01\x08", "\x07\x00\x02\x00", "\x07\x00\x01\x01\x02",
		"\x05\x00", "\x05\x00\x02a", "\x05\xff\xffa", "\x07\xff\xff", "\x07\x00", "\x07\x00\x01", "\x02\x00",
	}
	for _, x := range encoded() {
		l = append(l, x.s+"\x00", x.s+x.s)
		for i := range len(x.s) {
			l = append(l, x.s[:i])
		}
	}
	for _, s := range l {
		if v, e := value.Decode(s); !zero(v) || e != api.ErrForm {
			t.Errorf("Decode(%.60x): %.60v, %d", s, v, e)
		}
	}
}

// P2.6: bytes of what may not be, and of what just may.
func TestDecodeBounds(t *testing.T) {
	deep := func(n int) string { return strings.Repeat("\x07\x00\x01", n-1) + "\x07\x00\x00" }
	for _, x := range []struct {
		name, s string
		ok      bool
	}{
		{"a long text", "\x05\x10\x00" + strings.Repeat("a", 4096), true},
		{"a longer text", "\x05\x10\x01" + strings.Repeat("a", 4097), false},
		{"the longest text", "\x05\xff\xff" + strings.Repeat("a", 0xffff), false},
		{"long bytes", "\x06\x10\x00" + strings.Repeat("a", 4096), true},
		{"longer bytes", "\x06\x10\x01" + strings.Repeat("a", 4097), false},
		{"many values", "\x07\x03\xff" + strings.Repeat("\x00", 1023), true},
		{"more values", "\x07\x04\x00" + strings.Repeat("\x00", 1024), false},
		{"the most values", "\x07\xff\xff" + strings.Repeat("\x00", 0xffff), false},
		{"more values, in lists", "\x07\x00\x02" + strings.Repeat("\x07\x02\x00"+strings.Repeat("\x00", 512), 2), false},
		{"deep lists", deep(api.MaxNest), true},
		{"deeper lists", deep(api.MaxNest + 1), false},
		{"lists without end", strings.Repeat("\x07\x00\x01", 1<<20), false},
		{"many lists without end", strings.Repeat("\x07\xff\xff", 1<<20), false},
	} {
		v, e := value.Decode(x.s)
		if x.ok != (e == api.OK) || !x.ok && (e != api.ErrForm || !zero(v)) {
			t.Errorf("%s: %.40v, %d", x.name, v, e)
		}
		if s, _ := value.Encode(v); x.ok && s != x.s {
			t.Errorf("%s: %.40x", x.name, s)
		}
	}
}

// P2.7: Decode of Encode is the value, and what is encoded is unlike.
func TestEncodeAndBack(t *testing.T) {
	seen := map[string]int{}
	for i, v := range ladder() {
		s, e := value.Encode(v)
		if e != api.OK {
			t.Fatal(i, e)
		}
		if back, e := value.Decode(s); e != api.OK || !alike(back, v) {
			t.Errorf("Decode(%.60x): %.60v, %d", s, back, e)
		}
		if at, is := seen[s]; is {
			t.Errorf("%d and %d have the same bytes: %.60x", at, i, s)
		}
		seen[s] = i
	}
	for _, x := range manyFloats() {
		s, _ := value.Encode(float(x))
		if v, e := value.Decode(s); e != api.OK || !alike(v, float(x)) {
			t.Errorf("Decode(%x): %v, %d", s, v, e)
		}
	}
}

// P2.7: Encode of what Decode tells is the bytes: of all short ones of bytes that matter, and of bytes that are nearly some value's.
func TestDecodeAndBack(t *testing.T) {
	told := 0
	try := func(s string) {
		v, e := value.Decode(s)
		if e != api.OK {
			if e != api.ErrForm || !zero(v) {
				t.Fatalf("Decode(%x): %v, %d", s, v, e)
			}
			return
		}
		told++
		if back, e := value.Encode(v); back != s || e != api.OK {
			t.Fatalf("Encode of Decode(%x): %x, %d", s, back, e)
		}
	}
	const bytes = "\x00\x01\x02\x05\x06\x07\x08\xff"
	all := []string{""}
	for range 5 {
		var longer []string
		for _, s := range all {
			try(s)
			for i := range len(bytes) {
				longer = append(longer, s+bytes[i:i+1])
			}
		}
		all = longer
	}
	for _, s := range all {
		try(s)
	}
	for _, x := range encoded() {
		for i := range min(len(x.s), 20) {
			try(x.s[:i] + x.s[i+1:])
			for c := range 256 {
				try(x.s[:i] + string([]byte{byte(c)}) + x.s[i:])
				try(x.s[:i] + string([]byte{byte(c)}) + x.s[i+1:])
			}
		}
	}
	if told < 1000 {
		t.Error("bytes of values among them:", told)
	}
}
