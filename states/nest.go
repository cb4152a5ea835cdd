package states

import (
	"galley/api"
	"galley/class"
)

// place: where a walk over a regex may stand: ahead of a set or an anchor, behind which next comes, or where it goes on to one of ways.
type place struct {
	op   int8
	set  api.Class
	next int
	ways []int
}

// nest: the places of a regex, each repetition written out. A regex of weight MaxOpen has no more than 64.
type nest struct {
	re     []api.Node
	behind []int // of each node: the place behind it and all that stands in it
	places []place
}

// end: the place at which a walk is over.
const end = 0

// nestOf: the places of a regex, and the one at its beginning.
func nestOf(re []api.Node) (*nest, int) {
	n := &nest{re: re, behind: make([]int, len(re)), places: []place{{}}}
	for i := len(re) - 1; i >= 0; i-- {
		next := i + 1
		for range re[i].Kids {
			next = n.behind[next]
		}
		n.behind[i] = next
	}
	return n, n.build(0, end)
}

// add: a new place.
func (n *nest) add(p place) int {
	n.places = append(n.places, p)
	return len(n.places) - 1
}

// build: the place ahead of a node behind which the place next comes.
func (n *nest) build(at, next int) int {
	x := n.re[at]
	switch x.Op {
	case api.OpGroup:
		return n.build(at+1, next)
	case api.OpCat, api.OpAlt:
		return n.kids(at, next)
	case api.OpRep:
		return n.rounds(at, next)
	}
	return n.add(place{op: x.Op, set: x.Set, next: next})
}

// kids: of a row, or of sides.
func (n *nest) kids(at, next int) int {
	var kids []int
	for k := at + 1; len(kids) < n.re[at].Kids; k = n.behind[k] {
		kids = append(kids, k)
	}
	if n.re[at].Op == api.OpAlt {
		var ways []int
		for _, k := range kids {
			ways = append(ways, n.build(k, next))
		}
		return n.add(place{ways: ways})
	}
	for i := len(kids) - 1; i >= 0; i-- {
		next = n.build(kids[i], next)
	}
	return next
}

// rounds: of a repetition.
func (n *nest) rounds(at, next int) int {
	lo, hi := n.re[at].Min, n.re[at].Max
	over := next
	if hi < 0 {
		loop := n.add(place{})
		n.places[loop].ways = []int{n.build(at+1, loop), over}
		next = loop
	}
	for range hi - lo {
		next = n.add(place{ways: []int{n.build(at+1, next), over}})
	}
	for range lo {
		next = n.build(at+1, next)
	}
	return next
}

// reached: where a walk can be that comes to a place, without a byte being taken: the places of sets, and whether it may be over.
func (n *nest) reached(from int, first, last bool) (sets uint64, over bool) {
	var seen uint64
	var walk func(i int)
	walk = func(i int) {
		if seen>>i&1 == 1 {
			return
		}
		seen |= 1 << i
		p := n.places[i]
		switch {
		case p.op == api.OpSet:
			sets |= 1 << i
		case p.op == api.OpBegin && first, p.op == api.OpEnd && last:
			walk(p.next)
		}
		for _, w := range p.ways {
			walk(w)
		}
		over = over || i == end
	}
	walk(from)
	return sets, over
}

// standing: the places at which a walk may stand, as far as what comes hangs on them: those of sets; and 1, if it may be over with the text.
type standing [2]uint64

// stand: at a place, first: no byte was taken yet.
func (n *nest) stand(at int, first bool) standing {
	sets, _ := n.reached(at, first, false)
	_, over := n.reached(at, first, true)
	if over {
		return standing{sets, 1}
	}
	return standing{sets, 0}
}

// after: where a walk may stand behind each of its places of sets.
func (n *nest) after() []standing {
	l := make([]standing, len(n.places))
	for i, p := range n.places {
		if p.op == api.OpSet {
			l[i] = n.stand(p.next, false)
		}
	}
	return l
}

// takers: for each atom the places of the sets that have its bytes.
func (n *nest) takers(atoms []api.Class) []uint64 {
	l := make([]uint64, len(atoms))
	for k, a := range atoms {
		for i, p := range n.places {
			if p.op == api.OpSet && class.And(a, p.set) != (api.Class{}) {
				l[k] |= 1 << i
			}
		}
	}
	return l
}
