package value

import (
	"math"
	"strconv"
	"strings"

	"errata/api"
	"errata/text"
)

const digits = "0123456789abcdef"

// Float is a float as a text.
func Float(x float64) string {
	s := strconv.FormatFloat(x, 'g', -1, 64)
	if math.IsNaN(x) || math.IsInf(x, 0) || strings.ContainsAny(s, ".e") {
		return s
	}
	return s + ".0"
}

// Complex is a complex number as a text.
func Complex(x complex128) string {
	im := Float(imag(x))
	// A sign always stands between the parts: it shows where the second begins.
	if im[0] != '+' && im[0] != '-' {
		im = "+" + im
	}
	return "(" + Float(real(x)) + im + "i)"
}

// Text is a value as a text.
func Text(v api.Value) (string, api.Errno) {
	if e := Check(v); e != api.OK {
		return "", e
	}
	return textOf(toGo(v)), api.OK
}

// textOf is the text of the value whose Go value it is handed.
func textOf(held any) string {
	var b strings.Builder
	writeText(&b, held)
	return b.String()
}

func writeText(b *strings.Builder, held any) {
	switch x := held.(type) {
	case nil:
		b.WriteString("none")
	case bool:
		b.WriteString(strconv.FormatBool(x))
	case int64:
		b.WriteString(strconv.FormatInt(x, 10))
	case float64:
		b.WriteString(Float(x))
	case complex128:
		b.WriteString(Complex(x))
	case string:
		b.WriteString(text.Quote(x))
	case []byte:
		b.WriteString(`x"`)
		for _, c := range x {
			b.WriteByte(digits[c>>4])
			b.WriteByte(digits[c&15])
		}
		b.WriteByte('"')
	case []any:
		b.WriteByte('[')
		for i, item := range x {
			if i > 0 {
				b.WriteString(", ")
			}
			writeText(b, item)
		}
		b.WriteByte(']')
	}
}
