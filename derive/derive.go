// Package derive lists the derivations of a regex one by one, just as the document says what a regex means.
// It is slow beyond all but the smallest texts: the tests hold the layers against it.
package derive

import (
	"slices"

	"galley/api"
	"galley/sample"
	"galley/syntax"
)

// Tree: the tree of a regex as it is written; none, if it is refused.
func Tree(ere bool, s string) []api.Node {
	re, _, _ := syntax.Parse(ere, sample.Signs(s))
	return re
}

// tree: a derivation of a node; of an OpAlt side is the kid that is there.
type tree struct {
	span api.Span
	side int
	kids []*tree
}

// way: a derivation from some place on, and what the groups have taken at its end.
type way struct {
	tree  *tree
	taken []api.Span
}

// lister: a regex whose nodes know where they end, and a text.
type lister struct {
	re     []api.Node
	behind []int
	text   []byte
	none   []api.Span
}

func lists(re []api.Node, text []byte) *lister {
	l := &lister{re: re, text: text, behind: make([]int, len(re)), none: []api.Span{{From: -1, To: -1}}}
	for i := len(re) - 1; i >= 0; i-- {
		next := i + 1
		for range re[i].Kids {
			next = l.behind[next]
		}
		l.behind[i] = next
		if re[i].Op == api.OpGroup {
			l.none = append(l.none, l.none[0])
		}
	}
	return l
}

// reset: what is taken when the groups from one node up to another one begin anew.
func (l *lister) reset(taken []api.Span, from, to int) []api.Span {
	out := slices.Clone(taken)
	for _, n := range l.re[from:to] {
		if n.Op == api.OpGroup {
			out[n.N] = l.none[0]
		}
	}
	return out
}

// all: each derivation of a node from a place on.
func (l *lister) all(at, from int, taken []api.Span) []way {
	n := l.re[at]
	leaf := func(to int) []way {
		return []way{{&tree{span: api.Span{From: from, To: to}}, taken}}
	}
	switch n.Op {
	case api.OpSet:
		if from < len(l.text) && n.Set[l.text[from]/64]>>(l.text[from]%64)&1 == 1 {
			return leaf(from + 1)
		}
	case api.OpBegin:
		if from == 0 {
			return leaf(from)
		}
	case api.OpEnd:
		if from == len(l.text) {
			return leaf(from)
		}
	case api.OpRef:
		s := taken[n.N]
		to := from + s.To - s.From
		if s.From >= 0 && to <= len(l.text) && string(l.text[from:to]) == string(l.text[s.From:s.To]) {
			return leaf(to)
		}
	case api.OpGroup:
		ways := l.all(at+1, from, l.reset(taken, at+1, l.behind[at]))
		for i, w := range ways {
			ways[i].taken = slices.Clone(w.taken)
			ways[i].taken[n.N] = w.tree.span
			ways[i].tree = &tree{span: w.tree.span, kids: []*tree{w.tree}}
		}
		return ways
	case api.OpCat:
		return l.row(at, from, taken)
	case api.OpAlt:
		return l.sides(at, from, taken)
	case api.OpRep:
		return l.rounds(at, from, taken)
	}
	return nil
}

// grown: a derivation with one more kid.
func grown(w, kid way) way {
	return way{&tree{api.Span{From: w.tree.span.From, To: kid.tree.span.To}, 0, append(slices.Clone(w.tree.kids), kid.tree)}, kid.taken}
}

func (l *lister) row(at, from int, taken []api.Span) []way {
	ways := []way{{&tree{span: api.Span{From: from, To: from}}, taken}}
	kid := at + 1
	for range l.re[at].Kids {
		var next []way
		for _, w := range ways {
			for _, k := range l.all(kid, w.tree.span.To, w.taken) {
				next = append(next, grown(w, k))
			}
		}
		ways = next
		kid = l.behind[kid]
	}
	return ways
}

func (l *lister) sides(at, from int, taken []api.Span) []way {
	var ways []way
	kid := at + 1
	for side := range l.re[at].Kids {
		for _, k := range l.all(kid, from, taken) {
			ways = append(ways, way{&tree{k.tree.span, side, []*tree{k.tree}}, k.taken})
		}
		kid = l.behind[kid]
	}
	return ways
}

func (l *lister) rounds(at, from int, taken []api.Span) []way {
	n := l.re[at]
	var ways []way
	open := []way{{&tree{span: api.Span{From: from, To: from}}, taken}}
	for k := 0; len(open) > 0; k++ {
		var next []way
		for _, w := range open {
			if k >= n.Min {
				ways = append(ways, w)
			}
			if k == n.Max {
				continue
			}
			to := w.tree.span.To
			for _, r := range l.all(at+1, to, l.reset(w.taken, at+1, l.behind[at])) {
				if r.tree.span.To > to || k < n.Min || k == 0 {
					next = append(next, grown(w, r))
				}
			}
		}
		open = next
	}
	return ways
}

// better: is a better than b? Both are derivations of one node, from one place on.
func better(a, b *tree) int {
	if a.span != b.span {
		return a.span.To - b.span.To
	}
	if a.side != b.side {
		return b.side - a.side
	}
	for i, k := range a.kids {
		if i == len(b.kids) {
			return 1
		}
		if c := better(k, b.kids[i]); c != 0 {
			return c
		}
	}
	return len(a.kids) - len(b.kids)
}

// Ends: where the derivations of the root from a place on end, each place once, rising.
func Ends(re []api.Node, text []byte, from int) []int {
	l := lists(re, text)
	var ends []int
	for _, w := range l.all(0, from, l.none) {
		ends = append(ends, w.tree.span.To)
	}
	slices.Sort(ends)
	return slices.Compact(ends)
}

// Best: the captures of the best derivation at a span, and whether there is one.
func Best(re []api.Node, text []byte, s api.Span) ([]api.Span, bool) {
	l := lists(re, text)
	var best *way
	for _, w := range l.all(0, s.From, l.none) {
		if w.tree.span == s && (best == nil || better(w.tree, best.tree) > 0) {
			best = &w
		}
	}
	if best == nil {
		return nil, false
	}
	out := slices.Clone(best.taken)
	out[0] = s
	return out, true
}

// Find: the captures of the match from a place on, and whether there is one.
func Find(re []api.Node, text []byte, from int) ([]api.Span, bool) {
	for ; from <= len(text); from++ {
		if ends := Ends(re, text, from); len(ends) > 0 {
			return Best(re, text, api.Span{From: from, To: ends[len(ends)-1]})
		}
	}
	return nil, false
}
