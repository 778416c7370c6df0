package book

import (
	"iter"
	"slices"
	"strings"

	"errata/api"
	"errata/kinds"
)

// maxWords is how many bytes the words of an error have at most.
const maxWords = 1 << 20

// entry is an error, and what is known of it. None is ever changed.
type entry struct {
	made   error
	spec   api.Spec
	size   int
	depth  int
	length int
	words  int
}

// build is the entry of a spec that may be and whose parts are in the book.
func (b *Book) build(s api.Spec) (entry, api.Errno) {
	n := entry{spec: s, size: 1, depth: 1, words: wordsOf(s)}
	var parts []error
	var lengths []int
	for part := range b.entries(s.Parts) {
		n.size += part.size
		n.depth = max(n.depth, 1+part.depth)
		n.words += part.words
		parts = append(parts, part.made)
		lengths = append(lengths, part.length)
	}
	n.length = kinds.Long(s, lengths)
	var e api.Errno
	if n.made, e = kinds.Make(s, parts); e != api.OK {
		return entry{}, e
	}
	return n, bound(n)
}

// entries goes through what is kept of handles of the book, 0 among them.
func (b *Book) entries(handles []int) iter.Seq[entry] {
	return func(yield func(entry) bool) {
		for _, h := range handles {
			if kept, _ := b.find(h); !yield(kept) {
				return
			}
		}
	}
}

// wordsOf is how many bytes a spec's own words have.
func wordsOf(s api.Spec) int {
	n := len(s.Text)
	for _, item := range s.Items {
		n += len(item)
	}
	return n
}

// bound says which bound an entry is past.
func bound(n entry) api.Errno {
	switch {
	case n.size > api.MaxSize:
		return api.ErrSize
	case n.depth > api.MaxDepth:
		return api.ErrDeep
	case n.length > api.MaxText || n.words > maxWords:
		return api.ErrText
	}
	return api.OK
}

// own is a spec of which all is new memory: its words, too, lest a short one
// keep all of a text that it is a piece of.
func own(s api.Spec) api.Spec {
	s = withOwnLists(s)
	s.Text = strings.Clone(s.Text)
	for i, item := range s.Items {
		s.Items[i] = strings.Clone(item)
	}
	return s
}

// withOwnLists is a spec whose lists are new memory.
func withOwnLists(s api.Spec) api.Spec {
	s.Items = slices.Clone(s.Items)
	s.Parts = slices.Clone(s.Parts)
	return s
}
