package cases_test

import (
	"testing"

	"errata/api"
	"errata/cases"
	"errata/kinds"
)

// A type switch of the language, and the same one as clauses.
type pair struct {
	l       []cases.Clause
	chooses func(v error) int // the clause; -1 of nothing
}

func ofKinds(to int, ks ...uint8) cases.Clause {
	c := cases.Clause{To: to}
	for _, k := range ks {
		c.Terms = append(c.Terms, cases.Term{Kind: k})
	}
	return c
}

func ofFaces(to int, fs ...uint8) cases.Clause {
	c := cases.Clause{To: to}
	for _, f := range fs {
		c.Terms = append(c.Terms, cases.Term{Face: f})
	}
	return c
}

// overValues has kinds by their values, and no error.
var overValues = pair{
	[]cases.Clause{ofKinds(1, api.KindCode, api.KindNote), noError(2), ofKinds(3, api.KindLevel), ofKinds(4, api.KindSway, api.KindMark, api.KindTags), ofKinds(5, api.KindBox), ofKinds(6, api.KindLazy, api.KindLine), ofKinds(7, api.KindTwin, api.KindFull)},
	func(v error) int {
		switch v.(type) {
		case kinds.Code, kinds.Note:
			return 0
		case nil:
			return 1
		case kinds.Level:
			return 2
		case kinds.Sway, kinds.Mark, kinds.Tags:
			return 3
		case kinds.Box[int8], kinds.Box[float64], kinds.Box[[]uint8]:
			return 4
		case kinds.Lazy, kinds.Line:
			return 5
		case kinds.Twin, kinds.Full:
			return 6
		}
		return -1
	},
}

// overPointers has kinds by their pointers, structs, and a default ahead.
var overPointers = pair{
	[]cases.Clause{byDefault(1), ofKinds(2, api.KindPlain), ofKinds(3, api.KindQuiet, api.KindWrap, api.KindJoin), ofKinds(4, api.KindEcho), ofKinds(5, api.KindGuise, api.KindSlow, api.KindOpaque), ofKinds(6, api.KindCoded, api.KindBag), ofKinds(7, api.KindHold), ofKinds(8, api.KindOver), ofKinds(9, api.KindTimed, api.KindPlaced, api.KindVeil)},
	func(v error) int {
		switch v.(type) {
		default:
			return 0
		case *kinds.Plain:
			return 1
		case *kinds.Quiet, *kinds.Wrap, *kinds.Join:
			return 2
		case *kinds.Echo:
			return 3
		case *kinds.Guise, *kinds.Slow, *kinds.Opaque:
			return 4
		case kinds.Coded, kinds.Bag:
			return 5
		case kinds.Hold:
			return 6
		case kinds.Over:
			return 7
		case kinds.Timed, kinds.Placed, kinds.Veil:
			return 8
		}
	},
}

// overFaces has faces, the lesser ones first.
var overFaces = pair{
	[]cases.Clause{ofFaces(1, api.FaceNobody, api.FaceWhole), ofFaces(2, api.FaceCodedCause), ofFaces(3, api.FaceCoder), ofFaces(4, api.FaceTimedError), ofFaces(5, api.FaceTimer, api.FaceWeigher), ofFaces(6, api.FaceKinder, api.FaceGrader), byDefault(7), ofFaces(8, api.FaceOne, api.FaceMany, api.FaceLiner), ofFaces(9, api.FaceJudge, api.FaceLender), ofFaces(10, api.FacePhaser, api.FaceDetailer, api.FaceSizer), ofFaces(11, api.FaceError)},
	func(v error) int {
		switch v.(type) {
		case api.Nobody, api.Whole:
			return 0
		case api.CodedCause:
			return 1
		case api.Coder:
			return 2
		case api.TimedError:
			return 3
		case api.Timer, api.Weigher:
			return 4
		case api.Kinder, api.Grader:
			return 5
		default:
			return 6
		case api.One, api.Many, api.Liner:
			return 7
		case api.Judge, api.Lender:
			return 8
		case api.Phaser, api.Detailer, api.Sizer:
			return 9
		case error:
			return 10
		}
	},
}

// overBoth has kinds among faces, and any ahead of no error.
var overBoth = pair{
	[]cases.Clause{{Terms: []cases.Term{{Face: api.FaceMany}, {Kind: api.KindTwin}}, To: 1}, ofFaces(2, api.FaceGrader), ofKinds(3, api.KindCode), {Terms: []cases.Term{{Kind: api.KindWrap}, {}, {Face: api.FaceOne}}, To: 4}, ofKinds(5, api.KindBox), ofFaces(6, api.FaceAny)},
	func(v error) int {
		switch v.(type) {
		case api.Many, kinds.Twin:
			return 0
		case api.Grader:
			return 1
		case kinds.Code:
			return 2
		case *kinds.Wrap, nil, api.One:
			return 3
		case kinds.Box[int8], kinds.Box[float64], kinds.Box[[]uint8]:
			return 4
		case any:
			return 5
		}
		return -1
	},
}

// P9.7: Pick chooses what the language's own type switch chooses.
func TestAsTheLanguageSwitches(t *testing.T) {
	b := all(t)
	for i, p := range []pair{overValues, overPointers, overFaces, overBoth} {
		counts := map[int]int{}
		for h := 0; h <= b.Len(); h++ {
			v, _ := b.Error(h)
			want := p.chooses(v)
			counts[want]++
			got, e := cases.Pick(b, h, p.l)
			if got.Clause != want || want >= 0 && got.To != want+1 || e != api.OK {
				t.Errorf("switch %d, of %d: %v, %d; want clause %d", i, h, got, e, want)
			}
		}
		if len(counts) < 5 {
			t.Errorf("switch %d chooses few: %v", i, counts)
		}
	}
}

// P9.3, P9.7: within a clause of one term the language binds that type; with
// more terms, or by default, what is switched over stays an error.
func TestAsTheLanguageBinds(t *testing.T) {
	b := all(t)
	l := clauses(kind(api.KindCode, 1), face(api.FaceTimer, 2), ofKinds(3, api.KindNote, api.KindLevel), noError(4), byDefault(5))
	for h := 0; h <= b.Len(); h++ {
		v, _ := b.Error(h)
		var bound cases.Term
		switch v := v.(type) {
		case kinds.Code:
			bound = boundTo(v)
		case api.Timer:
			bound = boundTo(v)
		case kinds.Note, kinds.Level:
			bound = boundTo(v)
		case nil:
			bound = cases.Term{} // it stays what it was, and that is no error
		default:
			bound = boundTo(v)
		}
		c, _ := cases.Pick(b, h, l)
		if got, e := cases.Bound(l, c.Clause); got != bound || e != api.OK {
			t.Errorf("of %d, by clause %d: %v, %d; want %v", h, c.Clause, got, e, bound)
		}
	}
}

// boundTo is the term of the type that a variable was declared to have.
func boundTo[T any](T) cases.Term {
	switch any((*T)(nil)).(type) {
	case *kinds.Code:
		return cases.Term{Kind: api.KindCode}
	case *api.Timer:
		return cases.Term{Face: api.FaceTimer}
	case *error:
		return cases.Term{Face: api.FaceError}
	}
	return cases.Term{Kind: 255}
}
