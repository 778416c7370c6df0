package cases

import (
	"errata/api"
	"errata/book"
	"errata/kinds"
)

// choices is what a switch chooses for no error, place 0, and for each kind. It
// hangs on the kind alone, so one error of each is asked.
func choices(l []Clause) ([27]Choice, api.Errno) {
	s, e := Compile(l)
	if e != api.OK {
		return [27]Choice{}, e
	}
	var chosen [27]Choice
	b := oneOfEach()
	for h := range chosen {
		chosen[h], _ = s.Pick(b, h)
	}
	return chosen, api.OK
}

// oneOfEach is a book in which each kind's number is the handle of an error of
// that kind.
func oneOfEach() *book.Book {
	b := book.New()
	for kind := api.KindCode; kind <= api.KindOpaque; kind++ {
		b.Make(simplest(kind))
	}
	return b
}

// simplest is a spec of a kind that says no more than it must.
func simplest(kind uint8) api.Spec {
	s := api.Spec{Kind: kind}
	switch kind {
	case api.KindMark:
		s.Text = "mark"
	case api.KindBox:
		s.Number = 1
	case api.KindOpaque:
		s.Nil = true
	}
	return s
}

// mayChoose is all that a switch could choose: its terms and its default, in the
// order in which they stand.
func mayChoose(l []Clause) []Choice {
	var all []Choice
	for i, c := range l {
		if c.Default {
			all = append(all, Choice{i, noTerm, c.To})
		}
		for k := range c.Terms {
			all = append(all, Choice{i, k, c.To})
		}
	}
	return all
}

// kindOf is the kind whose type a value has; 0 of no error.
func kindOf(v error) uint8 {
	switch v.(type) {
	case kinds.Code:
		return api.KindCode
	case kinds.Note:
		return api.KindNote
	case kinds.Level:
		return api.KindLevel
	case kinds.Sway:
		return api.KindSway
	case kinds.Mark:
		return api.KindMark
	case kinds.Tags:
		return api.KindTags
	case kinds.Lazy:
		return api.KindLazy
	case kinds.Line:
		return api.KindLine
	case *kinds.Plain:
		return api.KindPlain
	case *kinds.Quiet:
		return api.KindQuiet
	case kinds.Coded:
		return api.KindCoded
	case kinds.Bag:
		return api.KindBag
	case kinds.Hold:
		return api.KindHold
	case *kinds.Wrap:
		return api.KindWrap
	case kinds.Over:
		return api.KindOver
	case *kinds.Join:
		return api.KindJoin
	case kinds.Timed:
		return api.KindTimed
	case kinds.Placed:
		return api.KindPlaced
	case kinds.Twin:
		return api.KindTwin
	case kinds.Veil:
		return api.KindVeil
	case *kinds.Echo:
		return api.KindEcho
	case *kinds.Guise:
		return api.KindGuise
	case kinds.Box[int8], kinds.Box[float64], kinds.Box[[]uint8]:
		return api.KindBox
	case *kinds.Slow:
		return api.KindSlow
	case kinds.Full:
		return api.KindFull
	case *kinds.Opaque:
		return api.KindOpaque
	}
	return 0
}
