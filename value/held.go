package value

import (
	"strings"

	"errata/api"
)

// toGo is the Go value of a value that may be. All of it is new memory.
func toGo(v api.Value) any {
	switch v.Kind {
	case api.ValBool:
		return v.Int == 1
	case api.ValInt:
		return v.Int
	case api.ValFloat:
		return v.Re
	case api.ValComplex:
		return complex(v.Re, v.Im)
	case api.ValText:
		return strings.Clone(v.Text)
	case api.ValBytes:
		return []byte(v.Text)
	case api.ValList:
		// Made even where it stays empty: a list is never nil.
		items := make([]any, len(v.List))
		for i, item := range v.List {
			items[i] = toGo(item)
		}
		return items
	}
	return nil
}

// fromGo is the value whose Go value it is handed. Its lists are new memory.
func fromGo(held any) api.Value {
	v := api.Value{Kind: kindOf(held)}
	switch x := held.(type) {
	case bool:
		v.Int = int64(bit(x))
	case int64:
		v.Int = x
	case float64:
		v.Re = x
	case complex128:
		v.Re, v.Im = real(x), imag(x)
	case string:
		v.Text = x
	case []byte:
		v.Text = string(x)
	case []any:
		for _, item := range x {
			v.List = append(v.List, fromGo(item))
		}
	}
	return v
}

// kindOf is the kind whose Go values are of that type.
func kindOf(held any) uint8 {
	switch held.(type) {
	case bool:
		return api.ValBool
	case int64:
		return api.ValInt
	case float64:
		return api.ValFloat
	case complex128:
		return api.ValComplex
	case string:
		return api.ValText
	case []byte:
		return api.ValBytes
	case []any:
		return api.ValList
	}
	return api.ValNone
}

// bit is 1 of what is true, as a value of kind ValBool has it.
func bit(is bool) byte {
	if is {
		return 1
	}
	return 0
}
