package value

import (
	"slices"

	"errata/api"
)

// Plus is the sum of two.
func Plus(a, b api.Value) (api.Value, api.Errno) {
	if e := checkBoth(a, b); e != api.OK {
		return api.Value{}, e
	}
	held, ok := sum(toGo(a), toGo(b))
	if !ok {
		return api.Value{}, api.ErrUnlike
	}
	v := fromGo(held)
	if e := Check(v); e != api.OK {
		return api.Value{}, e
	}
	return v, api.OK
}

// sum is the sum of two Go values; false, if they have none.
func sum(a, b any) (any, bool) {
	switch x := a.(type) {
	case nil:
		return b, true
	case bool:
		if y, ok := b.(bool); ok {
			return x || y, true
		}
	case string:
		if y, ok := b.(string); ok {
			return x + y, true
		}
	case []byte:
		if y, ok := b.([]byte); ok {
			return slices.Concat(x, y), true
		}
	case []any:
		if y, ok := b.([]any); ok {
			return slices.Concat(x, y), true
		}
	}
	if b == nil {
		return a, true
	}
	return sumNumbers(a, b)
}

// sumNumbers is the sum of two numbers, of the narrowest type that both are of
// or become; false, if one is no number.
func sumNumbers(a, b any) (any, bool) {
	if x, ok := a.(int64); ok {
		if y, ok := b.(int64); ok {
			return x + y, true
		}
	}
	if x, ok := toFloat(a); ok {
		if y, ok := toFloat(b); ok {
			return x + y, true
		}
	}
	if x, ok := toComplex(a); ok {
		if y, ok := toComplex(b); ok {
			return x + y, true
		}
	}
	return nil, false
}

// toFloat is an int or a float as a float: of an int the nearest one, of two as
// near the even one, as the language converts.
func toFloat(n any) (float64, bool) {
	switch x := n.(type) {
	case int64:
		return float64(x), true
	case float64:
		return x, true
	}
	return 0, false
}

// toComplex is a number as a complex one.
func toComplex(n any) (complex128, bool) {
	if c, ok := n.(complex128); ok {
		return c, true
	}
	x, ok := toFloat(n)
	return complex(x, 0), ok
}
