package machine

import (
	"math/rand"
	"slices"
	"strings"
	"testing"

	"galley/api"
	"galley/class"
	"galley/derive"
	"galley/syntax"
)

// ends: where the runs of a machine from a place on come to an InDone.
func ends(m []api.Instr, text []byte, from int) []int {
	type spot struct{ i, p int }
	seen := map[spot]bool{}
	var out []int
	var walk func(i, p int)
	walk = func(i, p int) {
		if seen[spot{i, p}] {
			return
		}
		seen[spot{i, p}] = true
		switch in := m[i]; in.Op {
		case api.InSet:
			if p < len(text) && class.Has(in.Set, text[p]) {
				walk(i+1, p+1)
			}
		case api.InBegin:
			if p == 0 {
				walk(i+1, p)
			}
		case api.InEnd:
			if p == len(text) {
				walk(i+1, p)
			}
		case api.InJump:
			walk(in.X, p)
		case api.InSplit:
			walk(in.X, p)
			walk(in.Y, p)
		case api.InDone:
			out = append(out, p)
		}
	}
	walk(0, from)
	slices.Sort(out)
	return slices.Compact(out)
}

// check: the machine of a regex is well shaped, no longer than it may be, the same again, and means the regex over some texts.
func check(t *testing.T, re []api.Node, texts ...string) {
	t.Helper()
	m, e := Compile(re)
	again, _ := Compile(re)
	if e != api.OK || !Shaped(m) || len(m) > 4*syntax.Weight(re)+4 || !slices.Equal(m, again) {
		t.Fatalf("%v: %d, %v", re, e, m)
	}
	for _, text := range texts {
		for from := range len(text) + 1 {
			if got, want := ends(m, []byte(text), from), derive.Ends(re, []byte(text), from); !slices.Equal(got, want) {
				t.Fatalf("%v in %q from %d: %v, not %v", re, text, from, got, want)
			}
		}
	}
}

// P7.1
func TestCompile(t *testing.T) {
	for _, s := range []string{"a", "a*", "(a*)*", "a|b", "ab|ba|a", "(a|ab)(c|bcd)?", "()", "()*", "()+", "a{0}", "a{2}", "a{2,}", "a{1,3}", "a+", "(a|b*)+b", "^a$", "a^b", "(^|a)b", "(a$|a)*"} {
		check(t, derive.Tree(true, s), "", "a", "b", "aab", "abba", "baaa")
	}
	// A round may take nothing, and an anchor may be repeated.
	begin := api.Node{Op: api.OpBegin}
	check(t, []api.Node{{Op: api.OpRep, Max: -1, Kids: 1}, begin}, "", "ab")
	check(t, []api.Node{{Op: api.OpRep, Min: 2, Max: 3, Kids: 1}, begin}, "", "ab")
	check(t, []api.Node{{Op: api.OpRep, Min: 2, Max: -1, Kids: 1}, {Op: api.OpCat}}, "", "ab")
	check(t, []api.Node{{Op: api.OpSet}}, "", "\x00")
	if m, e := Compile(nil); m != nil || e != api.ErrShape {
		t.Error("no nodes")
	}
	if m, e := Compile([]api.Node{begin, begin}); m != nil || e != api.ErrShape {
		t.Error("two trees")
	}
	if m, e := Compile(derive.Tree(false, `\(a\)\1`)); m != nil || e != api.ErrRef {
		t.Error("a reference")
	}
	if m, e := Compile([]api.Node{{Op: api.OpCat, Kids: 2}, {Op: api.OpRef, N: 1}, {Op: api.OpGroup, N: 1, Kids: 1}, begin}); m != nil || e != api.ErrShape {
		t.Error("a reference that is not well shaped")
	}
}

// some tree of few nodes; groups are numbered on from n.
func some(r *rand.Rand, deep int, n *int) []api.Node {
	if deep == 0 || r.Intn(6) == 0 {
		return [][]api.Node{{{Op: api.OpSet, Set: class.Of('a')}}, {{Op: api.OpSet, Set: class.Of('b')}}, {{Op: api.OpSet, Set: class.Of('a', 'b')}}, {{Op: api.OpBegin}}, {{Op: api.OpEnd}}, {{Op: api.OpCat}}}[r.Intn(6)]
	}
	var out []api.Node
	switch r.Intn(4) {
	case 0:
		out = []api.Node{{Op: api.OpCat, Kids: 2}}
	case 1:
		out = []api.Node{{Op: api.OpAlt, Kids: 2}}
	case 2:
		hi := r.Intn(4) - 1
		out = []api.Node{{Op: api.OpRep, Min: max(0, min(r.Intn(3), hi)), Max: hi, Kids: 1}}
	case 3:
		*n++
		out = []api.Node{{Op: api.OpGroup, N: *n, Kids: 1}}
	}
	for range out[0].Kids {
		out = append(out, some(r, deep-1, n)...)
	}
	return out
}

// P7.1
func TestMeans(t *testing.T) {
	r := rand.New(rand.NewSource(1))
	for range 3000 {
		n := 0
		check(t, some(r, 4, &n), "", "a", "ba", "aab", "abab")
	}
}

// P7.1: the heaviest regexes.
func TestHeavy(t *testing.T) {
	heavy := func(s string) {
		m, e := Compile(derive.Tree(true, s))
		if w := syntax.Weight(derive.Tree(true, s)); e != api.OK || !Shaped(m) || len(m) > 4*w+4 {
			t.Errorf("%s: %d instructions, %d", s, len(m), w)
		}
	}
	heavy("(a{255}){63}")
	heavy("((a?){60}){80}")
	heavy("((a|b){20}){100}")
	heavy("(((a|b|c)*){0,20}){0,80}")
	heavy("a" + strings.Repeat("|b", 2000))
	heavy("((a|b|c|d){0,9}){255}")
}

// P7.2
func TestShaped(t *testing.T) {
	a := class.Of('a')
	done := api.Instr{Op: api.InDone}
	for i, m := range [][]api.Instr{{done}, {{Op: api.InJump}}, {{Op: api.InSet, Set: a}, done}, {{Op: api.InSet}, done}, {{Op: api.InSplit, X: 0, Y: 1}, done}, {{Op: api.InBegin}, {Op: api.InEnd}, done}, {done, done}, {{Op: api.InJump, X: 1}, {Op: api.InJump}}} {
		if !Shaped(m) {
			t.Errorf("%d: false", i)
		}
	}
	for i, m := range [][]api.Instr{nil, {}, {{Op: api.InSet, Set: a}}, {{Op: api.InBegin}}, {{Op: api.InEnd}}, {{Op: api.InJump, X: 1}}, {{Op: api.InJump, X: -1}}, {{Op: api.InSplit, X: 1}}, {{Op: api.InSplit, Y: 1}}, {{Op: api.InSplit, X: -1}}, {{Op: api.InSplit, Y: -1}},
		{{Op: api.InDone, X: 1}}, {{Op: api.InDone, Y: 1}}, {{Op: api.InDone, Set: a}}, {{}}, {{Op: 7}}, {{Op: -1}}, {{Op: api.InJump, Y: 1}, done}, {{Op: api.InJump, Set: a}}, {{Op: api.InSplit, Set: a}}, {{Op: api.InBegin, X: 1}, done}, {{Op: api.InEnd, Set: a}, done}, {{Op: api.InSet, X: 1}, done}, {{Op: api.InSet, Y: 1}, done}, {done, {}},
		make([]api.Instr, 4*api.MaxWeight+5)} {
		if Shaped(m) {
			t.Errorf("%d: true", i)
		}
	}
	long := slices.Repeat([]api.Instr{done}, 4*api.MaxWeight+4)
	if !Shaped(long) || Shaped(append(long, done)) {
		t.Error("the longest")
	}
}

// R5
func TestMemory(t *testing.T) {
	re := derive.Tree(true, "(a|b)*c")
	m, _ := Compile(re)
	before := slices.Clone(m)
	m2, _ := Compile(re)
	m2[0] = api.Instr{}
	if !slices.Equal(m, before) || !slices.Equal(re, derive.Tree(true, "(a|b)*c")) {
		t.Error("memory")
	}
}
