package faces

import (
	"iter"

	"errata/api"
)

// allFaces is the set of all faces. The bits beside it stand for none.
const allFaces uint32 = 1<<(api.FaceAny+1) - 1<<api.FaceError

// The methods of which the faces of several methods are made, a bit each.
const (
	errorBit   uint32 = 1 << 1
	gradeBit   uint32 = 1 << 2
	codeBit    uint32 = 1 << 3
	weightBit  uint32 = 1 << 4
	timeoutBit uint32 = 1 << 6
	unwrapBit  uint32 = 1 << 9
	neverBit   uint32 = 1 << 15
)

// names are the faces' names, by their numbers.
var names = [...]string{
	api.FaceError:      "error",
	api.FaceGrader:     "Grader",
	api.FaceCoder:      "Coder",
	api.FaceWeigher:    "Weigher",
	api.FacePhaser:     "Phaser",
	api.FaceTimer:      "Timer",
	api.FaceLiner:      "Liner",
	api.FaceDetailer:   "Detailer",
	api.FaceOne:        "One",
	api.FaceMany:       "Many",
	api.FaceJudge:      "Judge",
	api.FaceLender:     "Lender",
	api.FaceKinder:     "Kinder",
	api.FaceSizer:      "Sizer",
	api.FaceTimedError: "TimedError",
	api.FaceCodedCause: "CodedCause",
	api.FaceWhole:      "Whole",
	api.FaceNobody:     "Nobody",
	api.FaceAny:        "any",
}

// isFace says whether there is a face of that number.
func isFace(face uint8) bool { return face >= api.FaceError && face <= api.FaceAny }

// methodsOf is the set of a face's methods.
func methodsOf(face uint8) uint32 {
	switch face {
	case api.FaceTimedError:
		return errorBit | timeoutBit
	case api.FaceCodedCause:
		return codeBit | unwrapBit
	case api.FaceWhole:
		return errorBit | gradeBit | weightBit | timeoutBit
	case api.FaceNobody:
		return neverBit
	case api.FaceAny:
		return 0
	}
	// Each face of one method has that method's number, but for Nobody.
	return 1 << face
}

// follows says whether one face has all methods of another one.
func follows(one, other uint8) bool { return methodsOf(other)&^methodsOf(one) == 0 }

// beneath says whether a face is left out where another one is told: it follows
// from that one, and of two that follow from each other the lesser is told.
func beneath(face, other uint8) bool {
	return face != other && follows(other, face) && (other < face || !follows(face, other))
}

// those is the set of the faces that are as is asked.
func those(is func(face uint8) bool) uint32 {
	var set uint32
	for face := range each(allFaces) {
		if is(face) {
			set |= 1 << face
		}
	}
	return set
}

// each goes through the faces of a set, rising.
func each(set uint32) iter.Seq[uint8] {
	return func(yield func(uint8) bool) {
		for face := api.FaceError; face <= api.FaceAny; face++ {
			if set>>face&1 == 1 && !yield(face) {
				return
			}
		}
	}
}
