package place

import (
	"slices"
	"strings"

	"errata/api"
)

// Tree is stacks that share what they have alike.
type Tree struct {
	nodes []node       // by their numbers; the first one is the empty stack
	found map[node]int // the numbers of all nodes but the first
}

// node is a stack: another one with one further place. As long as no two have
// the same parent and the same place, no two are one stack.
type node struct {
	parent int
	place  Place
}

// New makes a tree that has the empty stack alone.
func New() *Tree {
	return &Tree{nodes: make([]node, 1), found: map[node]int{}}
}

// Push is the stack with a further place.
func (t *Tree) Push(at int, p Place) (int, api.Errno) {
	switch {
	case t == nil:
		return 0, api.ErrNil
	case !t.has(at):
		return 0, api.ErrArg
	case !mayBe(p):
		return 0, api.ErrPlace
	case t.Depth(at) == MaxPlaces:
		return 0, api.ErrStack
	}
	made := node{parent: at, place: p}
	if n, ok := t.found[made]; ok {
		return n, api.OK
	}
	n := len(t.nodes)
	if n == MaxNodes {
		return 0, api.ErrFull
	}
	// A copy, lest a short name keep all of a text that it is a piece of.
	made.place.Name = strings.Clone(p.Name)
	t.nodes = append(t.nodes, made)
	t.found[made] = n
	return n, api.OK
}

// Add is a whole stack.
func (t *Tree) Add(l []Place) (int, api.Errno) {
	if t == nil {
		return 0, api.ErrNil
	}
	if e := Check(l); e != api.OK {
		return 0, e
	}
	n := 0
	for _, p := range l {
		var e api.Errno
		if n, e = t.Push(n, p); e != api.OK {
			return 0, e
		}
	}
	return n, api.OK
}

// Len is how many stacks it has.
func (t *Tree) Len() int {
	if t == nil {
		return 0
	}
	return len(t.nodes)
}

// has says whether there is a node of that number.
func (t *Tree) has(n int) bool { return n >= 0 && n < t.Len() }

// Parent is the stack without its innermost place.
func (t *Tree) Parent(n int) (int, bool) {
	if n == 0 || !t.has(n) {
		return 0, false
	}
	return t.nodes[n].parent, true
}

// Depth is how many places a stack has.
func (t *Tree) Depth(n int) int {
	depth := 0
	for {
		parent, ok := t.Parent(n)
		if !ok {
			return depth
		}
		n = parent
		depth++
	}
}

// Stack is a stack's places.
func (t *Tree) Stack(n int) ([]Place, api.Errno) {
	if t == nil {
		return nil, api.ErrNil
	}
	if !t.has(n) {
		return nil, api.ErrArg
	}
	l := make([]Place, t.Depth(n))
	for i := range slices.Backward(l) {
		l[i] = t.nodes[n].place
		n = t.nodes[n].parent
	}
	return l, api.OK
}

// Meet is the stack that two stacks have alike.
func (t *Tree) Meet(a, b int) (int, api.Errno) {
	if t == nil {
		return 0, api.ErrNil
	}
	if !t.has(a) || !t.has(b) {
		return 0, api.ErrArg
	}
	// A parent's number is the lesser, so the greater of two is not ahead of
	// the other one: what they have alike is ahead of it.
	for a != b {
		if a > b {
			a = t.nodes[a].parent
		} else {
			b = t.nodes[b].parent
		}
	}
	return a, api.OK
}
