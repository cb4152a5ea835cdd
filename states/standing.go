package states

import (
	"galley/api"
	"galley/class"
	"galley/walk"
)

// nest: the places of a regex, the one at its beginning among them. A regex of weight MaxOpen has no more than 64.
type nest struct {
	places []walk.Place
	first  int
}

func nestOf(re []api.Node) nest {
	places, first := walk.New(re).Places(0, walk.Onward)
	return nest{places, first}
}

// standing: the places at which a walk may stand, as far as what comes hangs on them: those of sets; and 1, if it may be over with the text.
type standing [2]uint64

// stand: where a walk may stand that comes to a place; first: no byte was taken yet.
func (n nest) stand(at int, first bool) standing {
	sets, _ := n.reached(at, first, false)
	if _, over := n.reached(at, first, true); over {
		return standing{sets, 1}
	}
	return standing{sets, 0}
}

// reached: the places of sets to which a walk can come without a byte being taken, and whether it may be over; last: no byte comes any more.
func (n nest) reached(from int, first, last bool) (sets uint64, over bool) {
	var seen uint64
	var walkOn func(i int)
	walkOn = func(i int) {
		if seen>>i&1 == 1 {
			return
		}
		seen |= 1 << i
		p := n.places[i]
		switch {
		case p.Op == api.OpSet:
			sets |= 1 << i
		case p.Op == api.OpBegin && first, p.Op == api.OpEnd && last:
			walkOn(p.Next)
		}
		for _, w := range p.Ways {
			walkOn(w)
		}
		over = over || i == walk.End
	}
	walkOn(from)
	return sets, over
}

// after: where a walk may stand behind each of its places of sets.
func (n nest) after() []standing {
	l := make([]standing, len(n.places))
	for i, p := range n.places {
		if p.Op == api.OpSet {
			l[i] = n.stand(p.Next, false)
		}
	}
	return l
}

// takers: for each atom the places of the sets that have its bytes.
func (n nest) takers(atoms []api.Class) []uint64 {
	l := make([]uint64, len(atoms))
	for k, a := range atoms {
		for i, p := range n.places {
			if p.Op == api.OpSet && class.And(a, p.Set) != (api.Class{}) {
				l[k] |= 1 << i
			}
		}
	}
	return l
}
