package backref

import (
	"slices"

	"galley/api"
	"galley/walk"
)

// visit: a state that was come to, and from which visit.
type visit struct {
	state
	from int
}

// farthest: the greatest place to which the regex leads from a place; below it, if there is none.
func (s *search) farthest(from int) int {
	s.low, s.rests = from, map[ahead][]walk.Set{}
	far := -1
	s.explore(s.begin(from, open), func(place int) bool {
		far = max(far, place)
		return far == len(s.text)
	})
	return far
}

// best: the captures of the best derivation at a span at which there is one.
func (s *search) best(span api.Span) []api.Span {
	s.low, s.rests = span.From, map[ahead][]walk.Set{}
	s.explore(s.begin(span.From, span.To), func(int) bool { return true })
	if s.spent {
		return nil
	}
	var way []state
	for i := len(s.visits) - 1; i >= 0; i = s.visits[i].from {
		way = append(way, s.visits[i].state)
	}
	slices.Reverse(way)
	return s.captures(way)
}

// explore goes from state to state, the better ones first, up to a place at which nothing is to do any more and met is done.
// A state that was come to before has failed, or has told its places already: it is not gone through again.
func (s *search) explore(from state, met func(place int) bool) {
	clear(s.seen)
	s.visits, s.stack = s.visits[:0], append(s.stack[:0], visit{from, -1})
	for len(s.stack) > 0 {
		v := s.stack[len(s.stack)-1]
		s.stack = s.stack[:len(s.stack)-1]
		if _, was := s.seen[v.state]; was {
			continue
		}
		if s.fuel == 0 {
			s.spent = true
			return
		}
		s.fuel--
		s.seen[v.state] = len(s.visits)
		s.visits = append(s.visits, v)
		if v.todo == done {
			if met(v.place) {
				return
			}
			continue
		}
		ways := s.ways(v.state)
		for i := len(ways) - 1; i >= 0; i-- {
			s.stack = append(s.stack, visit{ways[i], len(s.visits) - 1})
		}
	}
}

// ways: the states that come next, the better ones first.
func (s *search) ways(x state) []state {
	t := s.tasks[x.todo]
	switch t.kind {
	case doRow:
		return s.kids(x, t)
	case doRounds:
		return s.rounds(x, t)
	case doRound:
		return s.round(x, t)
	case doGroup:
		g := s.Node(t.node).N
		return []state{s.took(x, g, api.Span{From: t.from, To: x.place}).to(t.then, x.place)}
	}
	if s.free[t.node] {
		return s.leaf(x, t)
	}
	switch n := s.Node(t.node); n.Op {
	case api.OpRef:
		return s.again(x, t)
	case api.OpGroup:
		over := s.number(task{kind: doGroup, node: t.node, from: x.place, then: t.then})
		kid := s.number(task{kind: doNode, node: s.Kids(t.node)[0], to: t.to, then: over})
		return []state{s.anew(x, n.N+1, s.behind[t.node]).to(kid, x.place)}
	case api.OpAlt:
		return s.sides(x, t)
	case api.OpCat:
		return s.kids(x, task{kind: doRow, node: t.node, to: t.to, then: t.then})
	default:
		return s.rounds(x, task{kind: doRounds, node: t.node, to: t.to, then: t.then})
	}
}

// leaf: a node in which nothing hangs on the groups.
func (s *search) leaf(x state, t task) []state {
	if t.to != open {
		return []state{x.to(t.then, t.to)}
	}
	var l []state
	for _, end := range s.ends(t.node, x.place, walk.All(x.place, len(s.text))) {
		l = append(l, x.to(t.then, end))
	}
	return l
}

// ends: the places of a set to which a node may lead, falling.
func (s *search) ends(node, from int, to walk.Set) []int {
	var l []int
	s.After(node, s.text, from, to, func(place int) bool {
		l = append(l, place)
		return false
	})
	slices.Reverse(l)
	return l
}

// again: what a group has taken stands here once more.
func (s *search) again(x state, t task) []state {
	span := s.has(x, s.Node(t.node).N)
	end := x.place + span.To - span.From
	if span == none || end > len(s.text) || t.to != open && t.to != end || string(s.text[span.From:span.To]) != string(s.text[x.place:end]) {
		return nil
	}
	return []state{x.to(t.then, end)}
}

// sides: one of the kids.
func (s *search) sides(x state, t task) []state {
	var l []state
	for _, k := range s.Kids(t.node) {
		if t.to == open || s.Takes(k, s.text, api.Span{From: x.place, To: t.to}) {
			l = append(l, x.to(s.number(task{kind: doNode, node: k, to: t.to, then: t.then}), x.place))
		}
	}
	return l
}

// rest: from where the kids or rounds behind the count-th one may come to the end.
func (s *search) rest(t task) walk.Set {
	key := ahead{t.node, t.to}
	rests, ok := s.rests[key]
	if !ok {
		rests = s.Rests(t.node, s.text, s.low, t.to)
		s.rests[key] = rests
	}
	return rests[min(t.count, len(rests)-1)]
}

// kids: the next one of a row, at each end that it may have.
func (s *search) kids(x state, t task) []state {
	kids := s.Kids(t.node)
	then := t.then
	if t.count+1 < len(kids) {
		then = s.number(task{kind: doRow, node: t.node, count: t.count + 1, to: t.to, then: t.then})
	}
	var l []state
	for _, end := range s.chosen(kids[t.count], x.place, t) {
		l = append(l, x.to(s.number(task{kind: doNode, node: kids[t.count], to: end, then: then}), x.place))
	}
	return l
}

// chosen: the ends that a kid or a round may be given, falling; where any place will do none is chosen yet.
func (s *search) chosen(kid, from int, t task) []int {
	if t.to == open {
		return []int{open}
	}
	return s.ends(kid, from, s.rest(t))
}

// rounds: one more round, at each end that it may have; or none.
func (s *search) rounds(x state, t task) []state {
	n, kid := s.Node(t.node), s.Kids(t.node)[0]
	var l []state
ends:
	for _, end := range s.chosen(kid, x.place, t) {
		switch {
		case t.count == n.Max:
			break ends
		case end == x.place && !mayBeEmpty(n, t.count):
			continue ends
		}
		over := s.number(task{kind: doRound, node: t.node, count: t.count, from: x.place, to: t.to, then: t.then})
		begun := s.anew(x, s.first[kid], s.behind[kid])
		l = append(l, begun.to(s.number(task{kind: doNode, node: kid, to: end, then: over}), x.place))
	}
	if t.count >= n.Min && (t.to == open || t.to == x.place) {
		l = append(l, x.to(t.then, x.place))
	}
	return l
}

// round: a round is over; further ones may come.
func (s *search) round(x state, t task) []state {
	n := s.Node(t.node)
	if x.place == t.from && !mayBeEmpty(n, t.count) {
		return nil
	}
	// Without an end all rounds behind the first ones that must be are alike.
	count := t.count + 1
	if n.Max < 0 {
		count = min(count, max(n.Min, 1))
	}
	return []state{x.to(s.number(task{kind: doRounds, node: t.node, count: count, to: t.to, then: t.then}), x.place)}
}

// mayBeEmpty: may the round behind count others take nothing?
func mayBeEmpty(n api.Node, count int) bool { return count < n.Min || count == 0 }

// captures: what the groups have taken at the end of a way from state to state.
func (s *search) captures(way []state) []api.Span {
	spans := []api.Span{{From: way[0].place, To: way[len(way)-1].place}}
	for range s.behind[0] - 1 {
		spans = append(spans, none)
	}
	clean := func(first, behind int) {
		for g := first; g < behind; g++ {
			spans[g] = none
		}
	}
	for i, x := range way[:len(way)-1] {
		t, next := s.tasks[x.todo], s.tasks[way[i+1].todo]
		n := s.Node(t.node)
		switch {
		case t.kind == doGroup:
			spans[n.N] = api.Span{From: t.from, To: x.place}
		case t.kind == doNode && n.Op == api.OpGroup:
			clean(n.N+1, s.behind[t.node])
		case n.Op == api.OpRep && next.kind == doNode && next.node == s.Kids(t.node)[0]:
			clean(s.first[next.node], s.behind[next.node])
		}
	}
	return spans
}
