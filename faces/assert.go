package faces

import "errata/api"

// asserted is what the two-valued assertion of a value to a face makes, and
// whether it holds.
func asserted(v any, face uint8) (any, bool) {
	switch face {
	case api.FaceError:
		return to[error](v)
	case api.FaceGrader:
		return to[api.Grader](v)
	case api.FaceCoder:
		return to[api.Coder](v)
	case api.FaceWeigher:
		return to[api.Weigher](v)
	case api.FacePhaser:
		return to[api.Phaser](v)
	case api.FaceTimer:
		return to[api.Timer](v)
	case api.FaceLiner:
		return to[api.Liner](v)
	case api.FaceDetailer:
		return to[api.Detailer](v)
	case api.FaceOne:
		return to[api.One](v)
	case api.FaceMany:
		return to[api.Many](v)
	case api.FaceJudge:
		return to[api.Judge](v)
	case api.FaceLender:
		return to[api.Lender](v)
	case api.FaceKinder:
		return to[api.Kinder](v)
	case api.FaceSizer:
		return to[api.Sizer](v)
	case api.FaceTimedError:
		return to[api.TimedError](v)
	case api.FaceCodedCause:
		return to[api.CodedCause](v)
	case api.FaceWhole:
		return to[api.Whole](v)
	case api.FaceNobody:
		return to[api.Nobody](v)
	case api.FaceAny:
		return to[any](v)
	}
	return nil, false
}

// to is the two-valued assertion to one type.
func to[F any](v any) (any, bool) {
	if made, holds := v.(F); holds {
		return made, true
	}
	return nil, false
}

// must asserts a value to a face, one-valued. It panics where that does; it has
// no other way to tell that there is no such face.
func must(v any, face uint8) {
	switch face {
	case api.FaceError:
		_ = v.(error)
	case api.FaceGrader:
		_ = v.(api.Grader)
	case api.FaceCoder:
		_ = v.(api.Coder)
	case api.FaceWeigher:
		_ = v.(api.Weigher)
	case api.FacePhaser:
		_ = v.(api.Phaser)
	case api.FaceTimer:
		_ = v.(api.Timer)
	case api.FaceLiner:
		_ = v.(api.Liner)
	case api.FaceDetailer:
		_ = v.(api.Detailer)
	case api.FaceOne:
		_ = v.(api.One)
	case api.FaceMany:
		_ = v.(api.Many)
	case api.FaceJudge:
		_ = v.(api.Judge)
	case api.FaceLender:
		_ = v.(api.Lender)
	case api.FaceKinder:
		_ = v.(api.Kinder)
	case api.FaceSizer:
		_ = v.(api.Sizer)
	case api.FaceTimedError:
		_ = v.(api.TimedError)
	case api.FaceCodedCause:
		_ = v.(api.CodedCause)
	case api.FaceWhole:
		_ = v.(api.Whole)
	case api.FaceNobody:
		_ = v.(api.Nobody)
	case api.FaceAny:
		_ = v.(any)
	default:
		panic(api.ErrFace)
	}
}

// caught is the panic that the one-valued assertion comes to, or that there is
// no such face.
func caught(v any, face uint8) (panicked api.Panic, e api.Errno) {
	defer func() {
		switch with := recover().(type) {
		case nil:
		case api.Errno:
			e = with
		default:
			panicked = api.Panic{Sort: api.RuntimePanic}
		}
	}()
	must(v, face)
	return api.Panic{}, api.OK
}

// held is the set of the faces that a value holds.
func held(v any) uint32 {
	return those(func(face uint8) bool {
		_, holds := asserted(v, face)
		return holds
	})
}

// far is how many assertions of a road of faces hold.
func far(v any, road []uint8) int {
	at := v
	for n, face := range road {
		made, holds := asserted(at, face)
		if !holds {
			return n
		}
		at = made
	}
	return len(road)
}
