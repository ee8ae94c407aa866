package prefix

import (
	"iter"

	"praxinoscope/api"
	"praxinoscope/bits"
)

// node is where a tree goes on, by a nought and by a one. As no code begins another one, a node that goes on nowhere is the end of a code.
type node [2]int

// No node leads back to the first one, so its place says as well that there is none.
const (
	root    = 0
	nowhere = 0
)

// isEnd tells whether a code ends at a node.
func (t *Tree) isEnd(at int) bool {
	return t.nodes[at] == node{}
}

// grow lays the nodes of a code, and tells the last one; and false, if a code begins it, is it, or begins with it.
func (t *Tree) grow(text string) (int, bool) {
	here, fresh := root, false
	for bit := range bitsOf(text) {
		next := t.nodes[here][bit]
		fresh = next == nowhere
		switch {
		case fresh:
			next = t.lay(here, bit)
		case t.isEnd(next):
			return 0, false
		}
		here = next
	}
	return here, fresh
}

// lay puts a new node behind another one, and tells its place.
func (t *Tree) lay(here, bit int) int {
	next := len(t.nodes)
	t.nodes = append(t.nodes, node{})
	t.nodes[here][bit] = next
	return next
}

// bitsOf yields the bits that a code's text spells.
func bitsOf(text string) iter.Seq[int] {
	return func(yield func(int) bool) {
		for i := range len(text) {
			if !yield(int(text[i] - '0')) {
				return
			}
		}
	}
}

// bitsOn yields the bits from a place on, as many as there are.
func bitsOn(b []byte, from int) iter.Seq[int] {
	return func(yield func(int) bool) {
		for at := from; at < bits.Count(b); at++ {
			bit, err := bits.Read(b, at, 1)
			if err != api.OK || !yield(bit) {
				return
			}
		}
	}
}
