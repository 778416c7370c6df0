package value

import (
	"math"
	"strings"

	"errata/api"
)

// theNaN is the bits as which every NaN is told.
const theNaN = 0x7FF8 << 48

// Encode is a value's bytes.
func Encode(v api.Value) (string, api.Errno) {
	if e := Check(v); e != api.OK {
		return "", e
	}
	return bytesOf(toGo(v)), api.OK
}

// bytesOf is the bytes of the value whose Go value it is handed.
func bytesOf(held any) string { return string(appendBytes(nil, held)) }

func appendBytes(b []byte, held any) []byte {
	b = append(b, kindOf(held))
	switch x := held.(type) {
	case bool:
		b = append(b, bit(x))
	case int64:
		b = appendNumber(b, uint64(x), 8)
	case float64:
		b = appendFloat(b, x)
	case complex128:
		b = appendFloat(appendFloat(b, real(x)), imag(x))
	case string:
		b = append(appendNumber(b, uint64(len(x)), 2), x...)
	case []byte:
		b = append(appendNumber(b, uint64(len(x)), 2), x...)
	case []any:
		b = appendNumber(b, uint64(len(x)), 2)
		for _, item := range x {
			b = appendBytes(b, item)
		}
	}
	return b
}

// appendNumber appends as many of a number's low bytes as size says, the highest first.
func appendNumber(b []byte, n uint64, size int) []byte {
	for size > 0 {
		size--
		b = append(b, byte(n>>(8*size)))
	}
	return b
}

func appendFloat(b []byte, x float64) []byte {
	bits := math.Float64bits(x)
	if math.IsNaN(x) {
		bits = theNaN
	}
	return appendNumber(b, bits, 8)
}

// Decode is the value whose bytes they are.
func Decode(s string) (api.Value, api.Errno) {
	r := reader{rest: s, room: api.MaxTree}
	held := r.value(api.MaxNest)
	// A value has one form as bytes, and what is read takes some more (another
	// NaN, a bool of 02): it is held against its own bytes, to the end.
	if r.bad || bytesOf(held) != s {
		return api.Value{}, api.ErrForm
	}
	v := fromGo(held)
	if Check(v) != api.OK {
		return api.Value{}, api.ErrForm
	}
	return v, api.OK
}

// reader takes values from the front of bytes. Once it is bad, what it answered
// counts for nothing.
type reader struct {
	rest string
	room int // how many more values there may be
	bad  bool
}

// take takes n bytes; none, if there are fewer.
func (r *reader) take(n int) string {
	if n > len(r.rest) {
		r.bad = true
		return ""
	}
	front := r.rest[:n]
	r.rest = r.rest[n:]
	return front
}

// number takes a number of that many bytes, the highest first.
func (r *reader) number(size int) uint64 {
	n := uint64(0)
	for _, c := range []byte(r.take(size)) {
		n = n<<8 | uint64(c)
	}
	return n
}

func (r *reader) float() float64 { return math.Float64frombits(r.number(8)) }

// value takes a value; nest is how deep lists may stand in it.
func (r *reader) value(nest int) any {
	if r.room < 1 {
		r.bad = true
		return nil
	}
	r.room--
	switch uint8(r.number(1)) {
	case api.ValNone:
		return nil
	case api.ValBool:
		return r.number(1) == 1
	case api.ValInt:
		return int64(r.number(8))
	case api.ValFloat:
		return r.float()
	case api.ValComplex:
		re := r.float()
		return complex(re, r.float())
	case api.ValText:
		// A copy, lest a short text keep all of what it stood in.
		return strings.Clone(r.take(int(r.number(2))))
	case api.ValBytes:
		return []byte(r.take(int(r.number(2))))
	case api.ValList:
		return r.list(nest)
	}
	r.bad = true
	return nil
}

// list takes how many items a list has, and these.
func (r *reader) list(nest int) any {
	if nest < 1 {
		r.bad = true
		return nil
	}
	items := []any{}
	for range r.number(2) {
		if r.bad {
			return nil
		}
		items = append(items, r.value(nest-1))
	}
	return items
}
