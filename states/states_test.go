package states

import (
	"math/rand"
	"reflect"
	"slices"
	"testing"

	"galley/api"
	"galley/class"
	"galley/derive"
	"galley/syntax"
)

func made(t *testing.T, s string) api.Dfa {
	t.Helper()
	d, e := Make(derive.Tree(true, s))
	if e != api.OK {
		t.Fatalf("%s: %d", s, e)
	}
	return d
}

func of(s string) api.Class { return class.Of([]byte(s)...) }

// P9.1
func TestMake(t *testing.T) {
	all := class.Range(0, 255)
	ab := []api.Class{class.Not(of("ab")), of("a"), of("b")}
	a := []api.Class{class.Not(of("a")), of("a")}
	check := func(what string, d api.Dfa, e api.Errno, want api.Dfa) {
		t.Helper()
		if e != api.OK || !reflect.DeepEqual(d, want) || !Shaped(d) {
			t.Errorf("%s: %v %v %v", what, d.Next, d.Ends, e)
		}
	}
	one := func(s string, want api.Dfa) {
		t.Helper()
		d, e := Make(derive.Tree(true, s))
		check(s, d, e, want)
	}
	justA := api.Dfa{Atoms: a, Next: [][]int{{-1, 1}, {-1, -1}}, Ends: []bool{false, true}}
	one("a", justA)
	one("^a$", justA)
	one("(a|b)*", api.Dfa{Atoms: ab, Next: [][]int{{-1, 0, 0}}, Ends: []bool{true}})
	one(".*", api.Dfa{Atoms: []api.Class{all}, Next: [][]int{{0}}, Ends: []bool{true}})
	someA := api.Dfa{Atoms: a, Next: [][]int{{-1, 1}, {-1, 1}}, Ends: []bool{false, true}}
	one("a*a", someA)
	one("aa*", someA)
	none := api.Dfa{Atoms: a, Next: [][]int{{-1, -1}}, Ends: []bool{false}}
	one("a^", none)
	one("$a", none)
	one("$^", api.Dfa{Atoms: []api.Class{all}, Next: [][]int{{-1}}, Ends: []bool{true}})
	one("ab|b", api.Dfa{Atoms: ab, Next: [][]int{{-1, 1, 2}, {-1, -1, 2}, {-1, -1, -1}}, Ends: []bool{false, false, true}})
	one("a{0}", api.Dfa{Atoms: a, Next: [][]int{{-1, -1}}, Ends: []bool{true}})
	rep := func(op int8) []api.Node {
		return []api.Node{{Op: api.OpCat, Kids: 2}, {Op: api.OpSet, Set: of("a")}, {Op: api.OpRep, Max: -1, Kids: 1}, {Op: op}}
	}
	d, e := Make(rep(api.OpBegin))
	check("a^*", d, e, justA)
	d, e = Make([]api.Node{{Op: api.OpSet}})
	check("no byte", d, e, api.Dfa{Atoms: []api.Class{all}, Next: [][]int{{-1}}, Ends: []bool{false}})
}

// P9.1
func TestMakeFaults(t *testing.T) {
	set, ref := api.Node{Op: api.OpSet}, api.Node{Op: api.OpRef, N: 1}
	group := api.Node{Op: api.OpGroup, N: 1, Kids: 1}
	heavy := []api.Node{{Op: api.OpCat, Kids: 3}, group, set, ref, {Op: api.OpRep, Min: 30, Max: 30, Kids: 1}, set}
	light := []api.Node{{Op: api.OpCat, Kids: 2}, group, set, ref}
	for i, c := range []struct {
		re   []api.Node
		want api.Errno
	}{
		{nil, api.ErrShape}, {[]api.Node{set, set}, api.ErrShape}, {[]api.Node{ref}, api.ErrShape}, {heavy, api.ErrRef}, {light, api.ErrRef},
		{derive.Tree(true, "a{30}"), api.ErrWeight}, {derive.Tree(true, "a{19}"), api.OK}, {derive.Tree(true, "a{20}"), api.ErrWeight},
		{derive.Tree(true, ".*a.{7}"), api.OK}, {derive.Tree(true, ".*a.{8}"), api.ErrStates}, {derive.Tree(true, ".*a.{15}"), api.ErrStates}, {derive.Tree(true, "(.*ab|c)*.{9}"), api.ErrStates}, {derive.Tree(true, "[a-m]*a[a-z]{14}"), api.ErrStates},
	} {
		d, e := Make(c.re)
		if e != c.want || e != api.OK && !reflect.DeepEqual(d, api.Dfa{}) {
			t.Errorf("%d: %d", i, e)
		}
	}
	if d := made(t, ".*a.{7}"); len(d.Next) != api.MaxStates {
		t.Errorf("%d states", len(d.Next))
	}
}

// some tree of a weight that Make takes, or heavier.
func some(r *rand.Rand, deep int) []api.Node {
	if deep == 0 || r.Intn(5) == 0 {
		return [][]api.Node{{{Op: api.OpSet, Set: of("a")}}, {{Op: api.OpSet, Set: of("b")}}, {{Op: api.OpSet, Set: of("ab")}}, {{Op: api.OpSet, Set: class.Not(of("a"))}}, {{Op: api.OpBegin}}, {{Op: api.OpEnd}}, {{Op: api.OpCat}}}[r.Intn(7)]
	}
	out := []api.Node{{Op: api.OpCat, Kids: 2}}
	switch r.Intn(3) {
	case 0:
		out[0].Op = api.OpAlt
	case 1:
		hi := r.Intn(4) - 1
		out[0] = api.Node{Op: api.OpRep, Min: max(0, min(r.Intn(3), hi)), Max: hi, Kids: 1}
		if hi < 0 {
			out[0].Min = r.Intn(3)
		}
	}
	for range out[0].Kids {
		out = append(out, some(r, deep-1)...)
	}
	return out
}

// texts: all of at most n of these bytes.
func texts(bytes string, n int) []string {
	l := []string{""}
	for i := 0; len(l[i]) < n; i++ {
		for _, b := range bytes {
			l = append(l, l[i]+string(b))
		}
	}
	return l
}

// leastMachine: no two states are alike, nor one and going nowhere, and they are numbered as they are met.
func leastMachine(t *testing.T, d api.Dfa) {
	t.Helper()
	n := len(d.Next)
	// Two states are unlike, if one ends and the other does not, or if they go to unlike ones; -1 is n here.
	unlike := make([][]bool, n+1)
	for i := range unlike {
		unlike[i] = make([]bool, n+1)
		for j := range unlike[i] {
			unlike[i][j] = (i < n && d.Ends[i]) != (j < n && d.Ends[j])
		}
	}
	to := func(i, k int) int {
		if i == n || d.Next[i][k] < 0 {
			return n
		}
		return d.Next[i][k]
	}
	for more := true; more; {
		more = false
		for i := range unlike {
			for j := range unlike[i] {
				for k := range d.Atoms {
					if !unlike[i][j] && unlike[to(i, k)][to(j, k)] {
						unlike[i][j], more = true, true
					}
				}
			}
		}
	}
	for i := range unlike {
		for j := range i {
			if !unlike[i][j] && !(n == 1 && i == 1) {
				t.Fatalf("%v %v: %d and %d are alike", d.Next, d.Ends, i, j)
			}
		}
	}
	next := 1
	for _, row := range d.Next {
		for _, s := range row {
			if s > next {
				t.Fatalf("%v: numbered otherwise", d.Next)
			}
			if s == next {
				next++
			}
		}
	}
	if next != n {
		t.Fatalf("%v: a state that is not met", d.Next)
	}
}

// P9.1, P9.2
func TestTakes(t *testing.T) {
	r := rand.New(rand.NewSource(1))
	all := texts("abc", 4)
	n := 0
	for range 4000 {
		re := some(r, 1+r.Intn(4))
		d, e := Make(re)
		if syntax.Weight(re) > api.MaxOpen {
			if e != api.ErrWeight {
				t.Fatalf("%v: %d", re, e)
			}
			continue
		}
		if e != api.OK || !Shaped(d) {
			t.Fatalf("%v: %d", re, e)
		}
		n++
		if n := len(nestOf(re).places); n > 64 {
			t.Fatalf("%d places", n)
		}
		leastMachine(t, d)
		var sets []api.Class
		for _, x := range re {
			if x.Op == api.OpSet {
				sets = append(sets, x.Set)
			}
		}
		if !slices.Equal(d.Atoms, class.Atoms(sets...)) {
			t.Fatal("Atoms")
		}
		for _, text := range all[:40] {
			if want := slices.Contains(derive.Ends(re, []byte(text), 0), len(text)); Takes(d, []byte(text)) != want {
				t.Fatalf("%v: %q: %v", re, text, !want)
			}
		}
	}
	if n < 1000 {
		t.Error("too few")
	}
}

// P9.2
func TestShaped(t *testing.T) {
	all, a, notA := class.Range(0, 255), of("a"), class.Not(of("a"))
	good := api.Dfa{Atoms: []api.Class{notA, a}, Next: [][]int{{-1, 1}, {0, -1}}, Ends: []bool{false, true}}
	if !Shaped(good) || !Takes(good, []byte("axa")) || Takes(good, []byte("ax")) || Takes(good, []byte("aa")) || Takes(good, nil) {
		t.Error("good")
	}
	big := api.Dfa{Atoms: []api.Class{all}}
	for range api.MaxStates {
		big.Next = append(big.Next, []int{api.MaxStates - 1})
		big.Ends = append(big.Ends, true)
	}
	if !Shaped(big) {
		t.Error("256 states")
	}
	bad := []api.Dfa{{}, {Atoms: good.Atoms}, {Atoms: good.Atoms, Next: good.Next, Ends: good.Ends[:1]}, {Next: [][]int{{}}, Ends: []bool{true}}, {Atoms: []api.Class{a, notA}, Next: good.Next, Ends: good.Ends},
		{Atoms: []api.Class{notA, {}}, Next: good.Next, Ends: good.Ends}, {Atoms: []api.Class{{}, all}, Next: good.Next, Ends: good.Ends}, {Atoms: []api.Class{all, a}, Next: good.Next, Ends: good.Ends}, {Atoms: []api.Class{a}, Next: [][]int{{0}}, Ends: []bool{true}}, {Atoms: []api.Class{notA, notA}, Next: good.Next, Ends: good.Ends},
		{Atoms: good.Atoms, Next: [][]int{{-1, 2}, {0, -1}}, Ends: good.Ends}, {Atoms: good.Atoms, Next: [][]int{{-1, -2}, {0, -1}}, Ends: good.Ends}, {Atoms: good.Atoms, Next: [][]int{{-1, 1}, {0}}, Ends: good.Ends}, {Atoms: good.Atoms, Next: [][]int{{-1, 1, 1}, {0, 1}}, Ends: good.Ends},
		{Atoms: big.Atoms, Next: append(slices.Clone(big.Next), []int{0}), Ends: append(slices.Clone(big.Ends), true)}}
	for i, d := range bad {
		if Shaped(d) || Takes(d, nil) || Takes(d, []byte("a")) {
			t.Errorf("%d", i)
		}
		if s, ok := Unlike(d, good); s != nil || ok {
			t.Errorf("%d", i)
		}
		if s, ok := Unlike(good, d); s != nil || ok {
			t.Errorf("%d", i)
		}
	}
}

// P9.3
func TestUnlike(t *testing.T) {
	for _, c := range []struct {
		a, b, text string
		ok         bool
	}{
		{"a*", "a+", "", true}, {"a|b", "[ab]", "", false}, {"ab*", "abb*", "a", true}, {"[^a]", ".", "a", true}, {".*", "(.|ab)*", "", false}, {"a{3}", "a{4}", "aaa", true}, {"(a|b)*a", "(a|b)*b", "a", true}, {"[b-d]", "[c-e]", "b", true}, {"a$", "^a", "", false}, {"a^", "b^", "", false}, {"x(b|c)", "x(b|d)", "xc", true},
	} {
		for _, turned := range []bool{false, true} {
			a, b := made(t, c.a), made(t, c.b)
			if turned {
				a, b = b, a
			}
			if got, ok := Unlike(a, b); string(got) != c.text || ok != c.ok {
				t.Errorf("%s and %s: %q %v", c.a, c.b, got, ok)
			}
		}
	}
	r := rand.New(rand.NewSource(2))
	all := texts("`abc", 4)
	unlike := 0
	for range 3000 {
		a, e := Make(some(r, 1+r.Intn(3)))
		b, e2 := Make(some(r, 1+r.Intn(3)))
		if e != api.OK || e2 != api.OK {
			continue
		}
		got, ok := Unlike(a, b)
		if ok && (Takes(a, got) == Takes(b, got) || len(got) >= len(a.Next)+len(b.Next)) {
			t.Fatalf("%q", got)
		}
		want, found := "", false
		for _, s := range all {
			if Takes(a, []byte(s)) != Takes(b, []byte(s)) {
				want, found = s, true
				break
			}
		}
		if found {
			unlike++
			// Byte 0 stands for all that none of the letters is.
			if !ok || len(got) != len(want) || string(got) > want {
				t.Fatalf("%q %v, not %q", got, ok, want)
			}
		}
	}
	if unlike < 500 {
		t.Error("too few")
	}
}

// P9.4
func TestMemory(t *testing.T) {
	re := derive.Tree(true, "ab|b")
	d, _ := Make(re)
	want := made(t, "ab|b")
	d.Next[0][0], d.Ends[0], d.Atoms[0] = 7, true, api.Class{}
	if d, _ := Make(re); !reflect.DeepEqual(d, want) {
		t.Error("shared")
	}
	a := want
	a.Atoms = append(make([]api.Class, 0, 9), want.Atoms...)
	Unlike(a, made(t, "c"))
	if a.Atoms[:9][3] != (api.Class{}) {
		t.Error("spare room")
	}
}
