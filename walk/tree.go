// Package walk tells from which places of a text the nodes of a regex lead to which others, many places at once.
// Groups count for nothing here, and an OpRef may take any bytes: so where there are some, more is said to be taken than is.
package walk

import "galley/api"

// Tree: a regex whose nodes know their kids.
type Tree struct {
	re      []api.Node
	kids    [][]int
	grouped []bool
	made    map[key]*program
}

// The ways in which the bytes of a node are walked over.
const (
	Onward int8 = iota // from its beginning on
	Back               // from its end on
	Again              // from its end on, any number of times
)

// New: the tree of a regex that is well shaped.
func New(re []api.Node) *Tree {
	t := &Tree{re: re, kids: make([][]int, len(re)), grouped: make([]bool, len(re)), made: map[key]*program{}}
	// From the back, so that a node's kids lie on the stack when it is come to.
	var stack []int
	for i := len(re) - 1; i >= 0; i-- {
		t.grouped[i] = re[i].Op == api.OpGroup
		for range re[i].Kids {
			kid := stack[len(stack)-1]
			stack = stack[:len(stack)-1]
			t.kids[i] = append(t.kids[i], kid)
			t.grouped[i] = t.grouped[i] || t.grouped[kid]
		}
		stack = append(stack, i)
	}
	return t
}

// Node: the node at a place of the regex.
func (t *Tree) Node(at int) api.Node { return t.re[at] }

// Kids: the places of a node's kids. (It is not to be changed.)
func (t *Tree) Kids(at int) []int { return t.kids[at] }

// Grouped: is a group in the node, or is it one?
func (t *Tree) Grouped(at int) bool { return t.grouped[at] }

// Place: where a walk may stand: ahead of a leaf, behind which Next comes, or where it goes on to one of Ways.
type Place struct {
	Op   int8 // of a leaf
	Set  api.Class
	Next int
	Ways []int
}

// End: the number of the place at which a walk is over.
const End = 0

// builder: the places of a node, each repetition written out.
type builder struct {
	*Tree
	back   bool
	places []Place
}

// Places: the places of a node, and the number of the one where a walk begins.
func (t *Tree) Places(at int, way int8) ([]Place, int) {
	b := &builder{Tree: t, back: way != Onward, places: []Place{{}}}
	if way != Again {
		first := b.build(at, End)
		return b.places, first
	}
	loop := b.add(Place{})
	first := b.build(at, loop)
	b.places[loop].Ways = []int{first, End}
	return b.places, loop
}

func (b *builder) add(p Place) int {
	b.places = append(b.places, p)
	return len(b.places) - 1
}

// build: the place ahead of a node behind which the place next comes.
func (b *builder) build(at, next int) int {
	n := b.re[at]
	kids := b.kids[at]
	switch n.Op {
	case api.OpGroup:
		return b.build(kids[0], next)
	case api.OpCat:
		for i := range kids {
			if b.back {
				next = b.build(kids[i], next)
			} else {
				next = b.build(kids[len(kids)-1-i], next)
			}
		}
		return next
	case api.OpAlt:
		var ways []int
		for _, k := range kids {
			ways = append(ways, b.build(k, next))
		}
		return b.add(Place{Ways: ways})
	case api.OpRep:
		return b.rounds(n, kids[0], next)
	}
	return b.add(Place{Op: n.Op, Set: n.Set, Next: next})
}

// rounds: of a repetition.
func (b *builder) rounds(n api.Node, kid, next int) int {
	over := next
	if n.Max < 0 {
		loop := b.add(Place{})
		b.places[loop].Ways = []int{b.build(kid, loop), over}
		next = loop
	}
	for range n.Max - n.Min {
		next = b.add(Place{Ways: []int{b.build(kid, next), over}})
	}
	for range n.Min {
		next = b.build(kid, next)
	}
	return next
}
