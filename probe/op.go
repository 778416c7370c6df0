package probe

import (
	"slices"

	"errata/api"
	"errata/book"
)

// mayBe is whether an op may be in a program of so many.
func mayBe(b *book.Book, op api.Op, ops int) bool {
	switch op.Code {
	case api.OpLoad, api.OpSame:
		return isHandle(b, op.H)
	case api.OpKind, api.OpMustKind:
		return isKind(op.What)
	case api.OpFace, api.OpMustFace, api.OpPart:
		return isFace(op.What)
	case api.OpCall:
		return isFace(op.What) && (op.What != api.FaceJudge || isHandle(b, op.H))
	case api.OpJump, api.OpIf, api.OpCatch:
		return isPlace(op.N, ops)
	case api.OpSwitch:
		return isPlace(op.N, ops) && !slices.ContainsFunc(op.Cases, func(c api.Clause) bool { return !clauseMayBe(c, ops) })
	case api.OpNil, api.OpPush, api.OpPop, api.OpDone, api.OpPanic, api.OpHalt:
		return true
	}
	return false
}

// clauseMayBe is whether a clause may be in a program of so many ops.
func clauseMayBe(c api.Clause, ops int) bool {
	switch {
	case !isPlace(c.To, ops):
		return false
	case c.Kind == 0:
		return c.Face == 0 || isFace(c.Face)
	}
	return c.Face == 0 && isKind(c.Kind)
}

// isHandle is whether a handle names an error of the book, or none.
func isHandle(b *book.Book, h int) bool {
	_, e := b.Error(h)
	return e == api.OK
}

// isPlace is whether a number is a place in a program of so many ops; that
// behind the last one is.
func isPlace(n, ops int) bool { return n >= 0 && n <= ops }

func isKind(kind uint8) bool { return kind >= api.KindCode && kind <= api.KindOpaque }

func isFace(face uint8) bool { return face >= api.FaceError && face <= api.FaceAny }
