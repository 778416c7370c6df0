package cases

import (
	"errata/book"
	"errata/faces"
)

// What stands in a Choice where nothing was chosen, or not by a term.
const (
	noClause = -1
	noTerm   = -1
)

// subject is what a switch is asked about: an error of a book, or no error.
type subject struct {
	book   *book.Book
	handle int
	kind   uint8 // 0 of no error
}

// chooser is what was made of a term, or of the default: what it chooses, and
// whether it holds.
type chooser func(x subject) (Choice, bool)

// compiled is a row of choosers, of which the first that holds chooses: so the
// default comes last, wherever it stands.
func compiled(l []Clause) []chooser {
	var row, last []chooser
	for i, c := range l {
		for k, t := range c.Terms {
			row = append(row, ofTerm(t, Choice{i, k, c.To}))
		}
		if c.Default {
			last = append(last, always(Choice{i, noTerm, c.To}))
		}
	}
	return append(row, last...)
}

// ofTerm chooses where a term holds.
func ofTerm(t Term, choice Choice) chooser {
	if t.Face != 0 {
		return func(x subject) (Choice, bool) {
			holds, _ := faces.Holds(x.book, x.handle, t.Face)
			return choice, holds
		}
	}
	// The term that asks for no error has the kind that no error has, 0.
	return func(x subject) (Choice, bool) { return choice, x.kind == t.Kind }
}

// always chooses whatever it is asked about.
func always(choice Choice) chooser {
	return func(subject) (Choice, bool) { return choice, true }
}

// choose is what the switch chooses.
func (s *Switch) choose(x subject) Choice {
	for _, chooses := range s.row {
		if choice, holds := chooses(x); holds {
			return choice
		}
	}
	return Choice{Clause: noClause, Term: noTerm}
}

// folded is what comes of an error, whose parts come first; of no error, too.
func folded[R any](b *book.Book, h int, s *Switch, do []func(h int, parts []R) R) R {
	var came []R
	parts, _ := b.Parts(h)
	for _, part := range parts {
		if part != 0 {
			came = append(came, folded(b, part, s, do))
		}
	}
	choice, _ := s.Pick(b, h)
	if choice.Clause == noClause {
		var none R
		return none
	}
	return do[choice.Clause](h, came)
}
