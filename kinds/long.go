package kinds

import "errata/api"

// Long is how many bytes the text of a spec's error has, at most, out of those of its parts.
func Long(s api.Spec, parts []int) int {
	if Check(s) != api.OK {
		return 0
	}
	if s.Nil {
		return longNil(s.Kind)
	}
	switch s.Kind {
	case api.KindCode:
		return len(codeText(s.Number))
	case api.KindLevel:
		return len(levelText(s.Re))
	case api.KindSway:
		return len(swayText(complex(s.Re, s.Im)))
	case api.KindMark:
		return len(markText(Mark{}))
	case api.KindTags:
		return len(tagsText(counts(s.Items, s.Number)))
	case api.KindLine:
		return len(lineText)
	case api.KindTwin:
		return len(twinText(s.Number, s.Re))
	case api.KindBox:
		return longBox(s)
	case api.KindFull:
		return len(fullText(s.Text))
	case api.KindLazy, api.KindSlow:
		if s.Flag {
			return 0
		}
	case api.KindWrap, api.KindOver:
		return len(s.Text) + longCause(told(s, parts))
	case api.KindVeil:
		return len(veilText) + longCause(told(s, parts))
	case api.KindJoin:
		return longJoin(told(s, parts))
	case api.KindTimed, api.KindPlaced:
		// Without their part these panic: 0, like all that tells nothing.
		return sum(told(s, parts))
	}
	return len(s.Text)
}

// longNil is the length of a kind's typed nil: 0 of those that panic.
func longNil(kind uint8) int {
	switch kind {
	case api.KindTags:
		return len(tagsText(nil))
	case api.KindLine:
		return len(lineText)
	case api.KindQuiet:
		return len(quietText)
	case api.KindBox:
		return len(boxText(new([]uint8)))
	}
	return 0
}

// longBox is the length of a Box that is not of a nil list.
func longBox(s api.Spec) int {
	switch s.Number {
	case boxInt:
		return len(boxText(&s.Small))
	case boxFloat:
		return len(boxText(&s.Re))
	}
	return len(boxText(new([]uint8))) + len(s.Text)
}

// longCause is how many bytes a cause adds to a text.
func longCause(told []int) int {
	if len(told) == 0 {
		return 0
	}
	return len(between) + told[0]
}

// longJoin is the length of texts with a byte between each two.
func longJoin(told []int) int {
	return sum(told) + max(len(told)-1, 0)
}

// told is how many bytes each part tells, of those that are errors.
func told(s api.Spec, parts []int) []int {
	var l []int
	for i, handle := range s.Parts {
		if handle == 0 {
			continue
		}
		n := 0
		if i < len(parts) {
			n = min(max(parts[i], 0), api.MaxText+1)
		}
		l = append(l, n)
	}
	return l
}

func sum(l []int) int {
	n := 0
	for _, x := range l {
		n += x
	}
	return n
}
