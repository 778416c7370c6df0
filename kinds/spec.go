package kinds

import (
	"math"

	"errata/api"
)

// The fields of a spec, a bit each, but for Kind, Nil and Parts.
const (
	hasText = 1 << iota
	hasNumber
	hasSmall
	hasRe
	hasIm
	hasFlag
	hasMask
	hasItems
)

// By a Box's Number it is known what it is around.
const (
	boxInt   = 1
	boxFloat = 2
	boxBytes = 3
)

// markBytes is how many bytes a Mark is.
const markBytes = len(Mark{})

// row is what a kind's specs are like: which fields count, whether Nil may be
// true, and how many parts there may be.
type row struct {
	fields  uint8
	nothing bool
	most    int
}

// rows are the kinds' rows, by their numbers. A Box's fields are told by fieldsOf.
var rows = [...]row{
	api.KindCode:   {fields: hasNumber},
	api.KindNote:   {fields: hasText},
	api.KindLevel:  {fields: hasRe},
	api.KindSway:   {fields: hasRe | hasIm},
	api.KindMark:   {fields: hasText},
	api.KindTags:   {fields: hasItems | hasNumber, nothing: true},
	api.KindLazy:   {fields: hasText | hasFlag, nothing: true},
	api.KindLine:   {nothing: true},
	api.KindPlain:  {fields: hasText, nothing: true},
	api.KindQuiet:  {fields: hasText | hasFlag, nothing: true},
	api.KindCoded:  {fields: hasNumber | hasText},
	api.KindBag:    {fields: hasText | hasItems},
	api.KindHold:   {fields: hasText, most: 1},
	api.KindWrap:   {fields: hasText, nothing: true, most: 1},
	api.KindOver:   {fields: hasText, most: 1},
	api.KindJoin:   {nothing: true, most: api.MaxParts},
	api.KindTimed:  {fields: hasFlag, most: 1},
	api.KindPlaced: {fields: hasNumber, most: 1},
	api.KindTwin:   {fields: hasNumber | hasRe},
	api.KindVeil:   {most: 1},
	api.KindEcho:   {fields: hasText | hasFlag, nothing: true},
	api.KindGuise:  {fields: hasText | hasNumber, nothing: true},
	api.KindBox:    {nothing: true},
	api.KindSlow:   {fields: hasText | hasFlag, nothing: true},
	api.KindFull:   {fields: hasNumber | hasText, most: 1},
	api.KindOpaque: {fields: hasText | hasMask | hasItems, nothing: true, most: api.MaxParts},
}

// isKind says whether a number is a kind's.
func isKind(kind uint8) bool { return kind >= 1 && int(kind) < len(rows) }

// Parts is how many parts an error of a kind may have.
func Parts(kind uint8) (least, most int) {
	if !isKind(kind) {
		return 0, 0
	}
	return 0, rows[kind].most
}

// Check says what is wrong with a spec.
func Check(s api.Spec) api.Errno {
	if !isKind(s.Kind) || !withinBounds(s) || !fieldsFit(s) {
		return api.ErrKind
	}
	_, most := Parts(s.Kind)
	if s.Nil {
		most = 0
	}
	if len(s.Parts) > most {
		return api.ErrPart
	}
	return api.OK
}

// withinBounds says whether a spec's words are neither too long nor too many.
func withinBounds(s api.Spec) bool {
	if len(s.Text) > api.MaxWord || len(s.Items) > api.MaxItems {
		return false
	}
	for _, item := range s.Items {
		if len(item) > api.MaxWord {
			return false
		}
	}
	return true
}

// fieldsFit says whether a spec's fields are as its kind asks, and all others zero.
func fieldsFit(s api.Spec) bool {
	if s.Nil && !rows[s.Kind].nothing {
		return false
	}
	switch {
	case s.Kind == api.KindMark && len(s.Text) != markBytes:
		return false
	case s.Kind == api.KindBox && !mayBox(s):
		return false
	case s.Kind == api.KindOpaque && !s.Nil && (len(s.Items) != 1 || s.Items[0] == ""):
		return false
	}
	return fieldsSet(s)&^fieldsOf(s) == 0
}

// mayBox says whether there is a Box of a spec's Number: a nil one is around
// bytes alone.
func mayBox(s api.Spec) bool {
	return s.Number == boxBytes || !s.Nil && (s.Number == boxInt || s.Number == boxFloat)
}

// fieldsOf is which fields count in a spec, a bit each.
func fieldsOf(s api.Spec) uint8 {
	switch {
	case s.Kind == api.KindBox && s.Nil:
		return hasNumber
	case s.Nil:
		return 0
	case s.Kind != api.KindBox:
		return rows[s.Kind].fields
	case s.Number == boxInt:
		return hasNumber | hasSmall
	case s.Number == boxFloat:
		return hasNumber | hasRe
	}
	return hasNumber | hasText
}

// fieldsSet is which fields of a spec are not zero, a bit each.
func fieldsSet(s api.Spec) uint8 {
	var set uint8
	mark := func(is bool, field uint8) {
		if is {
			set |= field
		}
	}
	mark(s.Text != "", hasText)
	mark(s.Number != 0, hasNumber)
	mark(s.Small != 0, hasSmall)
	// By their bits: a nought with a sign is set, too.
	mark(math.Float64bits(s.Re) != 0, hasRe)
	mark(math.Float64bits(s.Im) != 0, hasIm)
	mark(s.Flag, hasFlag)
	mark(s.Mask != 0, hasMask)
	mark(len(s.Items) > 0, hasItems)
	return set
}
