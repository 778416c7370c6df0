package kinds

import (
	"slices"

	"errata/api"
)

// Make is the error of a spec, with these parts.
func Make(s api.Spec, parts []error) (error, api.Errno) {
	if e := Check(s); e != api.OK {
		return nil, e
	}
	if len(parts) != len(s.Parts) {
		return nil, api.ErrPart
	}
	_, most := Parts(s.Kind)
	switch {
	case s.Nil:
		return makeNil(s.Kind), api.OK
	case most == 0:
		return makeLeaf(s), api.OK
	case most == 1:
		return makeAbout(s, parts)
	}
	return makeOfMany(s, parts), api.OK
}

// makeNil is the typed nil of a kind.
func makeNil(kind uint8) error {
	switch kind {
	case api.KindTags:
		return Tags{}
	case api.KindLazy:
		return Lazy(nil)
	case api.KindLine:
		return Line(nil)
	case api.KindPlain:
		return (*Plain)(nil)
	case api.KindQuiet:
		return (*Quiet)(nil)
	case api.KindWrap:
		return (*Wrap)(nil)
	case api.KindJoin:
		return (*Join)(nil)
	case api.KindEcho:
		return (*Echo)(nil)
	case api.KindGuise:
		return (*Guise)(nil)
	case api.KindBox:
		return Box[[]uint8]{}
	case api.KindSlow:
		return (*Slow)(nil)
	case api.KindOpaque:
		return (*Opaque)(nil)
	}
	return nil
}

// makeLeaf is the error of a spec whose kind has no parts.
func makeLeaf(s api.Spec) error {
	switch s.Kind {
	case api.KindCode:
		return Code(s.Number)
	case api.KindNote:
		return Note(s.Text)
	case api.KindLevel:
		return Level(s.Re)
	case api.KindSway:
		return Sway(complex(s.Re, s.Im))
	case api.KindMark:
		return Mark([]byte(s.Text))
	case api.KindTags:
		return Tags{counts(s.Items, s.Number)}
	case api.KindLazy:
		return Lazy(answer(s.Text, s.Flag))
	case api.KindLine:
		return make(Line)
	case api.KindPlain:
		return &Plain{s.Text}
	case api.KindQuiet:
		return &Quiet{s.Text, s.Flag}
	case api.KindCoded:
		return Coded{s.Number, s.Text}
	case api.KindBag:
		return Bag{s.Text, slices.Clone(s.Items)}
	case api.KindTwin:
		return Twin{Code(s.Number), Level(s.Re)}
	case api.KindEcho:
		return &Echo{s.Text, s.Flag}
	case api.KindGuise:
		return &Guise{s.Text, s.Number}
	case api.KindBox:
		return makeBox(s)
	case api.KindSlow:
		return &Slow{make: answer(s.Text, s.Flag)}
	}
	return nil
}

// makeBox is the Box of a spec that is not of a nil list.
func makeBox(s api.Spec) error {
	switch s.Number {
	case boxInt:
		return Box[int8]{s.Small}
	case boxFloat:
		return Box[float64]{s.Re}
	}
	return Box[[]uint8]{[]uint8(s.Text)}
}

// counts is each item's count: those of like items are overwritten, and the
// numbers wrap.
func counts(items []string, first int16) map[string]int16 {
	m := make(map[string]int16, len(items))
	for i, item := range items {
		m[item] = first + int16(i)
	}
	return m
}

// answer is a function that answers a text, or panics with it.
func answer(text string, harsh bool) func() string {
	if harsh {
		return func() string { panic(Note(text)) }
	}
	return func() string { return text }
}

// makeAbout is the error of a spec whose kind has one part at most.
func makeAbout(s api.Spec, parts []error) (error, api.Errno) {
	var part error
	if len(parts) > 0 {
		part = parts[0]
	}
	switch s.Kind {
	case api.KindHold:
		return Hold{s.Text, part}, api.OK
	case api.KindWrap:
		return &Wrap{s.Text, part}, api.OK
	case api.KindOver:
		return Over{s.Text, part}, api.OK
	case api.KindTimed:
		return Timed{part, s.Flag}, api.OK
	case api.KindPlaced:
		return makePlaced(s, part)
	case api.KindFull:
		return makeFull(s, part)
	}
	return Veil{part}, api.OK
}

// makePlaced is the Placed of a spec. What is no error embeds as a nil Plain.
func makePlaced(s api.Spec, part error) (error, api.Errno) {
	if part == nil {
		return Placed{nil, s.Number}, api.OK
	}
	if plain, ok := part.(*Plain); ok {
		return Placed{plain, s.Number}, api.OK
	}
	return nil, api.ErrPart
}

// makeFull is the Full of a spec. What is no error embeds as a nil Wrap.
func makeFull(s api.Spec, part error) (error, api.Errno) {
	coded := Coded{s.Number, s.Text}
	if part == nil {
		return Full{nil, coded}, api.OK
	}
	if wrap, ok := part.(*Wrap); ok {
		return Full{wrap, coded}, api.OK
	}
	return nil, api.ErrPart
}

// makeOfMany is the error of a spec whose kind has many parts.
func makeOfMany(s api.Spec, parts []error) error {
	parts = slices.Clone(parts)
	if s.Kind == api.KindJoin {
		return &Join{parts}
	}
	return &Opaque{name: s.Items[0], text: s.Text, parts: parts, mask: s.Mask}
}
