package backref

import (
	"slices"

	"galley/api"
	"galley/walk"
)

// held: of so many referred groups what they have taken stands in the state itself.
const held = 3

// state: what is still to do, at which place, and what the referred groups have taken there.
type state struct {
	todo  int // the number of a task; done, if nothing is
	place int
	taken [held]api.Span
	more  int // the number of the row of what all further referred groups have taken
}

// done: the number of no task.
const done = 0

// The kinds of tasks.
const (
	doNode   int8 = iota + 1 // a node
	doRow                    // the kids of an OpCat from the count-th one on
	doRounds                 // rounds of an OpRep, of which count were done
	doRound                  // a round is over that began at from
	doGroup                  // a group is over that began at from
)

// task: what is to do, up to the place to, and then. Without such a place (open) it may come to any.
type task struct {
	kind  int8
	node  int
	count int
	from  int
	to    int
	then  int
}

// open: a task that may come to any place.
const open = -1

// search: a regex, a text, and what is known of both.
type search struct {
	*walk.Tree
	text    []byte
	free    []bool // of each node: no group and no OpRef is in it
	first   []int  // of each node: the number of the first group in it, itself too
	behind  []int  // of each node: the number of the first group behind it
	of      map[int]int
	tasks   []task
	numbers map[task]int
	rows    [][]api.Span
	links   map[link]int
	rests   map[ahead][]walk.Set
	low     int
	fuel    int64
	spent   bool
	seen    map[state]int // of each state that was come to, which visit it was
	visits  []visit
	stack   []visit
}

// link: a row of spans that goes on with one more.
type link struct {
	row  int
	span api.Span
}

// ahead: a node that is to come to an end.
type ahead struct{ node, to int }

var none = api.Span{From: -1, To: -1}

func newSearch(re []api.Node, text []byte, fuel int64) *search {
	n := len(re)
	s := &search{Tree: walk.New(re), text: text, free: make([]bool, n), first: make([]int, n), behind: make([]int, n), of: referred(re), fuel: fuel}
	s.tasks, s.numbers, s.seen = []task{{}}, map[task]int{}, map[state]int{}
	s.rows, s.links = [][]api.Span{nil}, map[link]int{}
	groups := 0
	for i, x := range re {
		s.first[i] = groups + 1
		if x.Op == api.OpGroup {
			groups++
		}
	}
	for i := n - 1; i >= 0; i-- {
		s.free[i] = re[i].Op != api.OpGroup && re[i].Op != api.OpRef
		s.behind[i] = s.first[i]
		if re[i].Op == api.OpGroup {
			s.behind[i]++
		}
		for _, k := range s.Kids(i) {
			s.free[i] = s.free[i] && s.free[k]
			s.behind[i] = max(s.behind[i], s.behind[k])
		}
	}
	return s
}

// number: a task's number, by which what is to do is told.
func (s *search) number(t task) int {
	n, ok := s.numbers[t]
	if !ok {
		n = len(s.tasks)
		s.numbers[t] = n
		s.tasks = append(s.tasks, t)
	}
	return n
}

// begin: the whole regex is to do.
func (s *search) begin(from, to int) state {
	x := state{todo: s.number(task{kind: doNode, to: to}), place: from}
	for i := range x.taken {
		x.taken[i] = none
	}
	x.more = s.row(slices.Repeat([]api.Span{none}, max(0, len(s.of)-held)))
	return x
}

// row: the number of a row of spans.
func (s *search) row(spans []api.Span) int {
	row := 0
	for i, span := range spans {
		next, ok := s.links[link{row, span}]
		if !ok {
			next = len(s.rows)
			s.links[link{row, span}] = next
			s.rows = append(s.rows, slices.Clone(spans[:i+1]))
		}
		row = next
	}
	return row
}

// to: the same, with something else to do, at another place.
func (x state) to(todo, place int) state {
	x.todo, x.place = todo, place
	return x
}

// took: the same, but that a group has taken a span. Of a group that is not referred nothing is kept.
func (s *search) took(x state, group int, span api.Span) state {
	i, ok := s.of[group]
	switch {
	case !ok:
	case i < held:
		x.taken[i] = span
	default:
		row := slices.Clone(s.rows[x.more])
		row[i-held] = span
		x.more = s.row(row)
	}
	return x
}

// has: what a referred group has taken.
func (s *search) has(x state, group int) api.Span {
	i := s.of[group]
	if i < held {
		return x.taken[i]
	}
	return s.rows[x.more][i-held]
}

// anew: the same, but that the groups from one number up to another one have taken nothing.
func (s *search) anew(x state, first, behind int) state {
	for g := first; g < behind; g++ {
		x = s.took(x, g, none)
	}
	return x
}
