package walk

import (
	"galley/api"
	"galley/class"
)

// key: a node, and the way in which it is walked over.
type key struct {
	at  int
	way int8
}

// program: the places of a node, and the room in which walks are followed.
type program struct {
	places []Place
	first  int
	stamps []int // the stamp of the place of the text at which a place was met last
	stamp  int
	now    []int
	next   []int
	stack  []int
}

// program: that of a node, made when it is asked for first.
func (t *Tree) program(at int, way int8) *program {
	k := key{at, way}
	p := t.made[k]
	if p == nil {
		places, first := t.Places(at, way)
		p = &program{places: places, first: first, stamps: make([]int, len(places))}
		t.made[k] = p
	}
	return p
}

// Before: the places from which a node leads to a place of the set, none of them below its low.
func (t *Tree) Before(at int, text []byte, to Set) Set { return t.back(at, Back, text, to) }

// BeforeRounds: the places from which a node, any number of times, leads to a place of the set.
func (t *Tree) BeforeRounds(at int, text []byte, to Set) Set { return t.back(at, Again, text, to) }

func (t *Tree) back(at int, way int8, text []byte, to Set) Set {
	p := t.program(at, way)
	out := NewSet(to.low, to.high)
	p.now = p.now[:0]
	for i := to.high; i >= to.low; i-- {
		if to.Has(i) {
			p.now = append(p.now, p.first)
		}
		byteAt := -1
		if i > to.low {
			byteAt = int(text[i-1])
		}
		if p.pass(i == 0, i == len(text), byteAt) {
			out.Add(i)
		}
	}
	return out
}

// After tells each place of the set to which a node leads from a place, rising, up to one with which met is done.
func (t *Tree) After(at int, text []byte, from int, to Set, met func(place int) bool) {
	p := t.program(at, Onward)
	p.now = append(p.now[:0], p.first)
	for i := from; len(p.now) > 0; i++ {
		byteAt := -1
		if i < to.high {
			byteAt = int(text[i])
		}
		if p.pass(i == 0, i == len(text), byteAt) && to.Has(i) && met(i) {
			return
		}
	}
}

// Farthest: the greatest place of the set to which a node leads from a place; below from, if there is none.
func (t *Tree) Farthest(at int, text []byte, from int, to Set) int {
	far := -1
	t.After(at, text, from, to, func(place int) bool {
		far = place
		return false
	})
	return far
}

// Takes: may a node take the span?
func (t *Tree) Takes(at int, text []byte, s api.Span) bool {
	return t.Farthest(at, text, s.From, One(s.From, s.To, s.To)) == s.To
}

// Rests: of each kid of an OpCat, or each round of an OpRep, that is to come to the end to, from the place from on: the places from which those behind it can.
// The last set of an OpRep holds of all further rounds. (There is no such set of an OpCat without kids.)
func (t *Tree) Rests(at int, text []byte, from, to int) []Set {
	n, end := t.re[at], One(from, to, to)
	if n.Op == api.OpRep {
		return t.restRounds(n, t.kids[at][0], text, end)
	}
	rests := make([]Set, n.Kids)
	for k := n.Kids - 1; k >= 0; k-- {
		rests[k] = end
		if k+1 < n.Kids {
			rests[k] = t.Before(t.kids[at][k+1], text, rests[k+1])
		}
	}
	return rests
}

func (t *Tree) restRounds(n api.Node, kid int, text []byte, end Set) []Set {
	rests := make([]Set, max(n.Max, n.Min, 1))
	for k := len(rests) - 1; k >= 0; k-- {
		switch {
		case k == len(rests)-1 && n.Max >= 0:
			rests[k] = end
		case k == len(rests)-1:
			rests[k] = t.BeforeRounds(kid, text, end)
		default:
			rests[k] = t.Before(kid, text, rests[k+1])
			// The rounds may be over as soon as there are as many as there must be.
			if k+1 >= n.Min {
				rests[k].Add(end.high)
			}
		}
	}
	return rests
}

// pass follows all walks over one place of the text, and says whether one is over there.
// byteAt is the byte that comes next; below 0 there is none.
func (p *program) pass(first, last bool, byteAt int) bool {
	over := false
	p.stamp++
	p.next = p.next[:0]
	p.stack, p.now = p.now, p.stack
	for len(p.stack) > 0 {
		i := p.stack[len(p.stack)-1]
		p.stack = p.stack[:len(p.stack)-1]
		if p.stamps[i] == p.stamp {
			continue
		}
		p.stamps[i] = p.stamp
		x := &p.places[i]
		switch {
		case x.Op == api.OpSet:
			if byteAt >= 0 && class.Has(x.Set, byte(byteAt)) {
				p.next = append(p.next, x.Next)
			}
		case x.Op == api.OpBegin && first, x.Op == api.OpEnd && last:
			p.stack = append(p.stack, x.Next)
		case x.Op == api.OpRef:
			p.stack = append(p.stack, x.Next)
			if byteAt >= 0 {
				p.next = append(p.next, i)
			}
		}
		p.stack = append(p.stack, x.Ways...)
		over = over || i == End
	}
	p.now, p.next = p.next, p.now
	return over
}
