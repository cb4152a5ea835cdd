package walk

import (
	"slices"
	"testing"

	"galley/api"
	"galley/derive"
)

// Each call is held against all derivations, listed one by one.
func TestWalks(t *testing.T) {
	for _, s := range []string{"a", "ab", "a|b", "a*", "(a|ab)(ba)?", "(a*)*", "(a|b){2,3}", "^a", "a$|b", "(^|b)a*", "()", "a{0}", "(ab?)+", "(a*b){2,}", "$^"} {
		re := derive.Tree(true, s)
		tree := New(re)
		for _, text := range []string{"", "a", "ab", "aab", "abab", "bbaa"} {
			check(t, tree, re, []byte(text))
		}
	}
}

func check(t *testing.T, tree *Tree, re []api.Node, text []byte) {
	t.Helper()
	n := len(text)
	for to := range n + 1 {
		before := tree.Before(0, text, One(0, n, to))
		for from := range n + 1 {
			want := slices.Contains(derive.Ends(re, text, from), to)
			if before.Has(from) != want || from <= to && tree.Takes(0, text, api.Span{From: from, To: to}) != want {
				t.Fatalf("%v: %q from %d to %d: %v", re, text, from, to, !want)
			}
		}
	}
	for from := range n + 1 {
		var got []int
		tree.After(0, text, from, All(from, n), func(p int) bool {
			got = append(got, p)
			return false
		})
		want := derive.Ends(re, text, from)
		far := -1
		if len(want) > 0 {
			far = want[len(want)-1]
		}
		if !slices.Equal(got, want) || tree.Farthest(0, text, from, All(from, n)) != far {
			t.Fatalf("%v: %q from %d: %v, not %v", re, text, from, got, want)
		}
	}
}

// A set has the places that were put there, none outside.
func TestSet(t *testing.T) {
	s := NewSet(70, 200)
	if s.Least() != -1 {
		t.Error("none")
	}
	s.Add(200)
	s.Add(134)
	if s.Least() != 134 || !s.Has(200) || s.Has(133) || s.Has(69) || s.Has(201) || s.Has(-1) {
		t.Error("set")
	}
	if all := All(3, 3); all.Least() != 3 || all.Has(4) || all.Has(2) {
		t.Error("All")
	}
}
