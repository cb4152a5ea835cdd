package capture

import (
	"bytes"
	"math/rand"
	"slices"
	"strings"
	"testing"

	"galley/api"
	"galley/class"
	"galley/derive"
	"galley/sample"
	"galley/syntax"
)

// P10.2
func TestFind(t *testing.T) {
	for _, c := range []struct {
		re, text string
		from     int
		want     []api.Span
	}{
		{"(a|ab)(c|bcd)(d*)", "abcd", 0, sample.Spans(0, 4, 0, 2, 2, 3, 3, 4)}, {"(a|ab)*", "aba", 0, sample.Spans(0, 3, 2, 3)}, {"((a)|b)*", "ab", 0, sample.Spans(0, 2, 1, 2, -1, -1)}, {"(a*)*", "b", 0, sample.Spans(0, 0, 0, 0)}, {"(a*)+", "aa", 0, sample.Spans(0, 2, 0, 2)}, {"(a*){2}", "aa", 0, sample.Spans(0, 2, 2, 2)},
		{"x*", "abc", 1, sample.Spans(1, 1)}, {"b|c", "abc", 0, sample.Spans(1, 2)}, {"^b", "abc", 0, nil}, {"c$", "abc", 0, sample.Spans(2, 3)}, {"(a?)(ab)?", "ab", 0, sample.Spans(0, 2, 0, 0, 0, 2)}, {"(a?)(ab)?b?", "ab", 0, sample.Spans(0, 2, 0, 1, -1, -1)},
		{"a", "abab", 5, nil}, {"a", "abab", -1, nil}, {"a*", "abab", 4, sample.Spans(4, 4)}, {"^a", "aa", 1, nil}, {"(b)|a", "ab", 0, sample.Spans(0, 1, -1, -1)}, {"()", "", 0, sample.Spans(0, 0, 0, 0)}, {"(a){0}", "a", 0, sample.Spans(0, 0, -1, -1)}, {"(a|b){0,2}", "abb", 0, sample.Spans(0, 2, 1, 2)},
	} {
		got, ok := Find(derive.Tree(true, c.re), []byte(c.text), c.from)
		if !slices.Equal(got, c.want) || ok != (c.want != nil) {
			t.Errorf("%s in %q from %d: %v %v", c.re, c.text, c.from, got, ok)
		}
	}
	for _, re := range [][]api.Node{nil, {{Op: api.OpBegin}, {Op: api.OpBegin}}, derive.Tree(false, `\(a\)\1`)} {
		if got, ok := Find(re, []byte("aa"), 0); got != nil || ok {
			t.Error("no regex")
		}
		if got, ok := Best(re, []byte("aa"), api.Span{From: 0, To: 2}); got != nil || ok {
			t.Error("no regex")
		}
	}
}

// P10.1
func TestBest(t *testing.T) {
	re := derive.Tree(true, "(a|b)*")
	text := []byte("abab")
	if got, ok := Best(re, text, api.Span{From: 1, To: 3}); !ok || !slices.Equal(got, sample.Spans(1, 3, 2, 3)) {
		t.Error(got)
	}
	for _, s := range sample.Spans(3, 1, 0, 5, -1, 2, 5, 5, -2, -1, -1, -1) {
		if got, ok := Best(re, text, s); got != nil || ok {
			t.Errorf("%v: %v", s, got)
		}
	}
	if got, ok := Best(derive.Tree(true, "a"), text, api.Span{From: 0, To: 2}); got != nil || ok {
		t.Error(got)
	}
	if got, ok := Best(derive.Tree(true, "(a)|b"), text, api.Span{From: 1, To: 2}); !ok || !slices.Equal(got, sample.Spans(1, 2, -1, -1)) {
		t.Error(got)
	}
}

// some tree of few nodes; groups are numbered on from n.
func some(r *rand.Rand, deep int, n *int) []api.Node {
	if deep == 0 || r.Intn(7) == 0 {
		return [][]api.Node{{{Op: api.OpSet, Set: class.Of('a')}}, {{Op: api.OpSet, Set: class.Of('a')}}, {{Op: api.OpSet, Set: class.Of('b')}}, {{Op: api.OpSet, Set: class.Of('a', 'b')}}, {{Op: api.OpBegin}}, {{Op: api.OpEnd}}, {{Op: api.OpCat}}}[r.Intn(7)]
	}
	var out []api.Node
	switch r.Intn(6) {
	case 0:
		out = []api.Node{{Op: api.OpCat, Kids: 2 + r.Intn(2)}}
	case 1:
		out = []api.Node{{Op: api.OpAlt, Kids: 2}}
	case 2, 3:
		hi := r.Intn(4) - 1
		lo := r.Intn(3)
		if hi >= 0 {
			lo = min(lo, hi)
		}
		out = []api.Node{{Op: api.OpRep, Min: lo, Max: hi, Kids: 1}}
	default:
		*n++
		out = []api.Node{{Op: api.OpGroup, N: *n, Kids: 1}}
	}
	for range out[0].Kids {
		out = append(out, some(r, deep-1, n)...)
	}
	return out
}

// P10.1, P10.2: held against all derivations, listed one by one.
func TestAll(t *testing.T) {
	r := rand.New(rand.NewSource(1))
	texts := []string{"", "a", "b", "ab", "aa", "aab", "aba", "abab", "baaa"}
	n := 0
	for n < 6000 {
		k := 0
		re := some(r, 2+r.Intn(4), &k)
		if len(re) > 12 || syntax.Weight(re) > 14 {
			continue
		}
		n++
		text := []byte(texts[r.Intn(len(texts))])
		for from := range len(text) + 1 {
			want, found := derive.Find(re, text, from)
			if got, ok := Find(re, text, from); !slices.Equal(got, want) || ok != found {
				t.Fatalf("%v in %q from %d: %v, not %v", re, text, from, got, want)
			}
			for to := from; to <= len(text); to++ {
				s := api.Span{From: from, To: to}
				want, found := derive.Best(re, text, s)
				if got, ok := Best(re, text, s); !slices.Equal(got, want) || ok != found {
					t.Fatalf("%v in %q at %v: %v, not %v", re, text, s, got, want)
				}
			}
		}
	}
}

// Long texts take no longer than their length calls for.
func TestLong(t *testing.T) {
	n := 1 << 18
	text := []byte(strings.Repeat("ab,", n/3))
	for s, want := range map[string][]api.Span{
		"(.*)":          sample.Spans(0, len(text), 0, len(text)),
		"(.)*":          sample.Spans(0, len(text), len(text)-1, len(text)),
		"(.*),(.*)":     sample.Spans(0, len(text), 0, len(text)-1, len(text), len(text)),
		"(([^,]*),)*":   sample.Spans(0, len(text), len(text)-3, len(text), len(text)-3, len(text)-1),
		"(a|ab)(,a|b)*": sample.Spans(0, len(text)-1, 0, 2, len(text)-2, len(text)-1),
	} {
		if got, ok := Find(derive.Tree(true, s), text, 0); !ok || !slices.Equal(got, want) {
			t.Errorf("%s: %v", s, got)
		}
	}
}

// R4, R5
func TestMemory(t *testing.T) {
	re := derive.Tree(true, "(a)b")
	text := []byte("xab")
	got, _ := Find(re, text, 0)
	got[0] = api.Span{}
	if again, _ := Find(re, text, 0); !slices.Equal(again, sample.Spans(1, 3, 1, 2)) || !bytes.Equal(text, []byte("xab")) || !slices.Equal(re, derive.Tree(true, "(a)b")) {
		t.Error("memory")
	}
}
