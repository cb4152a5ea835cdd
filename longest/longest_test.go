package longest

import (
	"bytes"
	"math/rand"
	"slices"
	"strings"
	"testing"

	"galley/api"
	"galley/class"
	"galley/derive"
	"galley/machine"
)

func search(t *testing.T, m ...api.Instr) *Search {
	t.Helper()
	s, e := New(m)
	if e != api.OK {
		t.Fatal(e)
	}
	return s
}

func set(s string) api.Instr { return api.Instr{Op: api.InSet, Set: class.Of([]byte(s)...)} }

var done = api.Instr{Op: api.InDone}

// asThenB: any number of a, and b.
func asThenB() []api.Instr {
	return []api.Instr{{Op: api.InSplit, X: 1, Y: 3}, set("a"), {Op: api.InJump}, set("b"), done}
}

// P8.1
func TestNew(t *testing.T) {
	for _, m := range [][]api.Instr{nil, {set("a")}, {{Op: api.InJump, X: 3}}, {{}}} {
		if s, e := New(m); s != nil || e != api.ErrShape {
			t.Errorf("%v: %d", m, e)
		}
	}
	m := asThenB()
	s := search(t, m...)
	m[3] = set("c")
	if _, ok := s.Find([]byte("ab"), 0); !ok {
		t.Error("R5: the machine is kept")
	}
}

// P8.2
func TestEnds(t *testing.T) {
	s := search(t, asThenB()...)
	if got := s.Ends([]byte("aab"), 0); !slices.Equal(got, []bool{false, false, false, true}) {
		t.Error(got)
	}
	if got := s.Ends([]byte("aab"), 3); !slices.Equal(got, []bool{false, false, false, false}) {
		t.Error(got)
	}
	for _, from := range []int{4, -1, 1 << 62, -1 << 63} {
		if got := s.Ends([]byte("aab"), from); got != nil || s.Steps() != 0 {
			t.Error(got)
		}
	}
	if got := search(t, api.Instr{Op: api.InJump}, done).Ends([]byte("ab"), 1); !slices.Equal(got, make([]bool, 3)) {
		t.Error(got)
	}
	if got := search(t, done).Ends(nil, 0); !slices.Equal(got, []bool{true}) {
		t.Error(got)
	}
	got := s.Ends([]byte("aab"), 0)
	got[0] = true
	if again := s.Ends([]byte("aab"), 0); again[0] || !again[3] {
		t.Error("R5")
	}
}

// P8.3
func TestFind(t *testing.T) {
	check := func(s *Search, text string, from int, want api.Span, ok bool) {
		t.Helper()
		if got, is := s.Find([]byte(text), from); got != want || is != ok {
			t.Errorf("%q from %d: %v %v", text, from, got, is)
		}
	}
	s := search(t, asThenB()...)
	check(s, "caabab", 0, api.Span{From: 1, To: 4}, true)
	check(s, "caabab", 2, api.Span{From: 2, To: 4}, true)
	check(s, "caabab", 4, api.Span{From: 4, To: 6}, true)
	check(s, "caabab", 6, api.Span{}, false)
	check(s, "caabab", 7, api.Span{}, false)
	check(s, "caabab", -1, api.Span{}, false)
	check(search(t, done), "", 0, api.Span{}, true)
	check(search(t, done), "a", 1, api.Span{From: 1, To: 1}, true)
	check(search(t, api.Instr{Op: api.InJump}, done), "a", 0, api.Span{}, false)
	begin := search(t, api.Instr{Op: api.InBegin}, done)
	check(begin, "a", 0, api.Span{}, true)
	check(begin, "a", 1, api.Span{}, false)
	check(search(t, api.Instr{Op: api.InEnd}, done), "ab", 0, api.Span{From: 2, To: 2}, true)
	// A match that begins later is found earlier.
	late := search(t, api.Instr{Op: api.InSplit, X: 1, Y: 5}, set("a"), set("b"), set("c"), done, set("b"), done)
	check(late, "abc", 0, api.Span{From: 0, To: 3}, true)
	check(late, "abd", 0, api.Span{From: 1, To: 2}, true)
}

// plain follows the runs one by one.
func plain(m []api.Instr, text []byte, from int) []bool {
	type spot struct{ i, p int }
	seen := map[spot]bool{}
	ends := make([]bool, len(text)+1)
	var walk func(i, p int)
	walk = func(i, p int) {
		if seen[spot{i, p}] {
			return
		}
		seen[spot{i, p}] = true
		switch in := m[i]; in.Op {
		case api.InSet:
			if p < len(text) && class.Has(in.Set, text[p]) {
				walk(i+1, p+1)
			}
		case api.InBegin:
			if p == 0 {
				walk(i+1, p)
			}
		case api.InEnd:
			if p == len(text) {
				walk(i+1, p)
			}
		case api.InJump:
			walk(in.X, p)
		case api.InSplit:
			walk(in.X, p)
			walk(in.Y, p)
		case api.InDone:
			ends[p] = true
		}
	}
	walk(0, from)
	return ends
}

// some machine of few instructions.
func some(r *rand.Rand) []api.Instr {
	n := 1 + r.Intn(9)
	m := make([]api.Instr, n)
	for i := range m {
		m[i] = []api.Instr{set("a"), set("b"), set("ab"), {Op: api.InSplit, X: r.Intn(n), Y: r.Intn(n)}, {Op: api.InSplit, X: r.Intn(n), Y: r.Intn(n)}, {Op: api.InJump, X: r.Intn(n)}, {Op: api.InBegin}, {Op: api.InEnd}, done}[r.Intn(9)]
	}
	if m[n-1].Op != api.InJump && m[n-1].Op != api.InSplit {
		m[n-1] = done
	}
	return m
}

// P8.2 to P8.5
func TestRuns(t *testing.T) {
	r := rand.New(rand.NewSource(1))
	for range 3000 {
		m := some(r)
		s := search(t, m...)
		for range 12 {
			text := make([]byte, r.Intn(7))
			for i := range text {
				text[i] = "abc"[r.Intn(3)]
			}
			before := bytes.Clone(text)
			bound := 8 * len(m) * (len(text) + 2) * (len(text) + 2)
			from := r.Intn(len(text) + 1)
			if got, want := s.Ends(text, from), plain(m, text, from); !slices.Equal(got, want) {
				t.Fatalf("%v %q %d: %v, not %v", m, text, from, got, want)
			}
			if s.Steps() < 1 || s.Steps() > bound {
				t.Fatalf("%d steps", s.Steps())
			}
			var want api.Span
			found := false
			for p := from; p <= len(text) && !found; p++ {
				for q, end := range plain(m, text, p) {
					if end {
						want, found = api.Span{From: p, To: q}, true
					}
				}
			}
			got, ok := s.Find(text, from)
			if got != want || ok != found || s.Steps() < 1 || s.Steps() > bound {
				t.Fatalf("%v %q %d: %v %v, not %v", m, text, from, got, ok, want)
			}
			steps := s.Steps()
			fresh := search(t, m...)
			if fresh.Find(text, from); fresh.Steps() != steps || !bytes.Equal(text, before) {
				t.Fatal("P8.4: the same call, another number")
			}
		}
	}
}

// P8.4, and the stamps are gone through more than once.
func TestLong(t *testing.T) {
	m, _ := machine.Compile(derive.Tree(true, "(x+x+)+y"))
	s := search(t, m...)
	text := []byte(strings.Repeat("x", 200000))
	if _, ok := s.Find(text, 0); ok {
		t.Error("no y")
	}
	if s.Steps() > len(m)*(len(text)+1) {
		t.Errorf("%d steps", s.Steps())
	}
	if got, ok := s.Find(append(text, 'y'), 7); !ok || got != (api.Span{From: 7, To: len(text) + 1}) {
		t.Error(got)
	}
	for i := range 70000 {
		if got, ok := s.Find([]byte("zxxy"), 0); !ok || got != (api.Span{From: 1, To: 4}) {
			t.Fatalf("%d: %v", i, got)
		}
	}
}

// P8.4, P8.5
func TestNone(t *testing.T) {
	s := search(t, done)
	if s.Steps() != 0 {
		t.Error("ahead of any call")
	}
	s.Find(nil, 0)
	if s.Steps() < 1 {
		t.Error("a call")
	}
	s.Find(nil, 1)
	if s.Steps() != 0 {
		t.Error("outside")
	}
	for _, s := range []*Search{nil, {}} {
		if _, ok := s.Find([]byte("a"), 0); ok || s.Ends([]byte("a"), 0) != nil || s.Steps() != 0 {
			t.Error("none")
		}
	}
}
