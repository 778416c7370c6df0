package cases

import "errata/api"

// tooMany is whether there are more clauses, or more terms in all, than a switch
// may have.
func tooMany(l []Clause) bool {
	terms := 0
	for _, c := range l {
		terms += len(c.Terms)
	}
	return len(l) > MaxClauses || terms > MaxTerms
}

// clauseMayBe is whether a clause may be, whatever stands ahead of it.
func clauseMayBe(c Clause) bool {
	for _, t := range c.Terms {
		if !termMayBe(t) {
			return false
		}
	}
	return c.Default == (len(c.Terms) == 0)
}

// termMayBe is whether a term asks for a kind, for a face, or for no error.
func termMayBe(t Term) bool {
	if t.Face == 0 {
		return t.Kind <= api.KindOpaque
	}
	return t.Kind == 0 && t.Face <= api.FaceAny
}
