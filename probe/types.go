package probe

import (
	"errata/api"
	"errata/kinds"
)

// asked is an assertion to a type, in the form that tells and in the one that
// panics.
type asked struct {
	tells func(v any) bool
	must  func(v any)
}

// to is the assertion to one type.
func to[T any]() asked {
	return asked{
		tells: func(v any) bool {
			_, is := v.(T)
			return is
		},
		must: func(v any) { _ = v.(T) },
	}
}

// toBox is the assertion to any of the types that a Box has.
func toBox() asked {
	anInt, aFloat, aList := to[kinds.Box[int8]](), to[kinds.Box[float64]](), to[kinds.Box[[]uint8]]()
	tells := func(v any) bool { return anInt.tells(v) || aFloat.tells(v) || aList.tells(v) }
	must := func(v any) {
		if !tells(v) {
			anInt.must(v)
		}
	}
	return asked{tells, must}
}

// typeOf is the assertion to a kind's type.
func typeOf(kind uint8) asked {
	switch kind {
	case api.KindCode:
		return to[kinds.Code]()
	case api.KindNote:
		return to[kinds.Note]()
	case api.KindLevel:
		return to[kinds.Level]()
	case api.KindSway:
		return to[kinds.Sway]()
	case api.KindMark:
		return to[kinds.Mark]()
	case api.KindTags:
		return to[kinds.Tags]()
	case api.KindLazy:
		return to[kinds.Lazy]()
	case api.KindLine:
		return to[kinds.Line]()
	case api.KindPlain:
		return to[*kinds.Plain]()
	case api.KindQuiet:
		return to[*kinds.Quiet]()
	case api.KindCoded:
		return to[kinds.Coded]()
	case api.KindBag:
		return to[kinds.Bag]()
	case api.KindHold:
		return to[kinds.Hold]()
	case api.KindWrap:
		return to[*kinds.Wrap]()
	case api.KindOver:
		return to[kinds.Over]()
	case api.KindJoin:
		return to[*kinds.Join]()
	case api.KindTimed:
		return to[kinds.Timed]()
	case api.KindPlaced:
		return to[kinds.Placed]()
	case api.KindTwin:
		return to[kinds.Twin]()
	case api.KindVeil:
		return to[kinds.Veil]()
	case api.KindEcho:
		return to[*kinds.Echo]()
	case api.KindGuise:
		return to[*kinds.Guise]()
	case api.KindBox:
		return toBox()
	case api.KindSlow:
		return to[*kinds.Slow]()
	case api.KindFull:
		return to[kinds.Full]()
	}
	return to[*kinds.Opaque]()
}

// kindOf is the kind whose type a value has; 0, if it is no error.
func kindOf(v any) uint8 {
	switch v.(type) {
	case kinds.Code:
		return api.KindCode
	case kinds.Note:
		return api.KindNote
	case kinds.Level:
		return api.KindLevel
	case kinds.Sway:
		return api.KindSway
	case kinds.Mark:
		return api.KindMark
	case kinds.Tags:
		return api.KindTags
	case kinds.Lazy:
		return api.KindLazy
	case kinds.Line:
		return api.KindLine
	case *kinds.Plain:
		return api.KindPlain
	case *kinds.Quiet:
		return api.KindQuiet
	case kinds.Coded:
		return api.KindCoded
	case kinds.Bag:
		return api.KindBag
	case kinds.Hold:
		return api.KindHold
	case *kinds.Wrap:
		return api.KindWrap
	case kinds.Over:
		return api.KindOver
	case *kinds.Join:
		return api.KindJoin
	case kinds.Timed:
		return api.KindTimed
	case kinds.Placed:
		return api.KindPlaced
	case kinds.Twin:
		return api.KindTwin
	case kinds.Veil:
		return api.KindVeil
	case *kinds.Echo:
		return api.KindEcho
	case *kinds.Guise:
		return api.KindGuise
	case kinds.Box[int8], kinds.Box[float64], kinds.Box[[]uint8]:
		return api.KindBox
	case *kinds.Slow:
		return api.KindSlow
	case kinds.Full:
		return api.KindFull
	case *kinds.Opaque:
		return api.KindOpaque
	}
	return 0
}
