package syntax

import "galley/api"

// deepest: in how many others a node may stand.
const deepest = 4*api.MaxNest + 3

// shape: a walk over a list that may be a tree.
type shape struct {
	re     []api.Node
	groups int
	ended  [api.MaxGroups + 1]bool
}

// Shaped: is it well shaped?
func Shaped(re []api.Node) bool {
	// Each node weighs one at least; what is longer need not be walked.
	if len(re) == 0 || len(re) > api.MaxWeight {
		return false
	}
	s := &shape{re: re}
	next, weight := s.walk(0, 0, 0)
	return next == len(re) && weight <= api.MaxWeight
}

// walk: the place behind the node at a place, and its weight; the place is -1, if it is not well shaped.
func (s *shape) walk(at, depth, nest int) (int, int) {
	if at >= len(s.re) || depth > deepest || !fits(s.re[at]) {
		return -1, 0
	}
	n := s.re[at]
	switch n.Op {
	case api.OpRef:
		if n.N < 1 || n.N > api.MaxGroups || !s.ended[n.N] {
			return -1, 0
		}
	case api.OpGroup:
		s.groups++
		if n.N != s.groups || n.N > api.MaxGroups || nest >= api.MaxNest {
			return -1, 0
		}
		nest++
	}
	next, weight := at+1, 0
	for range n.Kids {
		var w int
		next, w = s.walk(next, depth+1, nest)
		if next < 0 {
			return -1, 0
		}
		weight = min(weight+w, api.MaxWeight+1)
	}
	if n.Op == api.OpGroup {
		s.ended[n.N] = true
	}
	return next, weightOf(n, weight)
}

// fits: are the node's own numbers such as its kind may have?
func fits(n api.Node) bool {
	if n.Op != api.OpSet && n.Set != (api.Class{}) || n.Op != api.OpGroup && n.Op != api.OpRef && n.N != 0 || n.Op != api.OpRep && (n.Min != 0 || n.Max != 0) {
		return false
	}
	switch n.Op {
	case api.OpSet, api.OpBegin, api.OpEnd, api.OpRef:
		return n.Kids == 0
	case api.OpCat:
		return n.Kids == 0 || n.Kids >= 2
	case api.OpAlt:
		return n.Kids >= 2
	case api.OpGroup:
		return n.Kids == 1
	case api.OpRep:
		return n.Kids == 1 && n.Min >= 0 && n.Min <= api.MaxCount && (n.Max == -1 || n.Max >= n.Min && n.Max <= api.MaxCount)
	}
	return false
}

// weightOf: a node's weight, by that of its kids together; never more than one above the limit.
func weightOf(n api.Node, kids int) int {
	times := 1
	if n.Op == api.OpRep {
		times = max(n.Max, 1)
		if n.Max < 0 {
			times = n.Min + 1
		}
	}
	return min(1+times*kids, api.MaxWeight+1)
}

// weigh: the weight of a tree, never more than one above the limit.
func weigh(re []api.Node) int {
	// From the back, so that a node's kids lie on the stack when it is come to.
	var stack []int
	for i := len(re) - 1; i >= 0; i-- {
		sum := 0
		for range re[i].Kids {
			sum = min(sum+stack[len(stack)-1], api.MaxWeight+1)
			stack = stack[:len(stack)-1]
		}
		stack = append(stack, weightOf(re[i], sum))
	}
	return stack[0]
}

// Behind: the place behind the node at a place and all that stands in it; -1, if there is none.
func Behind(re []api.Node, at int) int {
	if !Shaped(re) || at < 0 || at >= len(re) {
		return -1
	}
	for open := 1; open > 0; at++ {
		open += re[at].Kids - 1
	}
	return at
}

// Groups: how many groups it has.
func Groups(re []api.Node) int { return count(re, api.OpGroup) }

// Refs: has it an OpRef?
func Refs(re []api.Node) bool { return count(re, api.OpRef) > 0 }

// count: how many nodes of a kind a tree has; 0 of what is none.
func count(re []api.Node, op int8) int {
	if !Shaped(re) {
		return 0
	}
	n := 0
	for _, x := range re {
		if x.Op == op {
			n++
		}
	}
	return n
}

// Weight: the weight of a tree; 0 of what is none.
func Weight(re []api.Node) int {
	if !Shaped(re) {
		return 0
	}
	return weigh(re)
}
