package derive

import (
	"slices"
	"testing"

	"galley/api"
)

// The document's own examples of what a regex means.
func TestExamples(t *testing.T) {
	for _, c := range []struct {
		ere      bool
		re, text string
		want     []api.Span
	}{
		{true, "(a|ab)(c|bcd)(d*)", "abcd", []api.Span{{From: 0, To: 4}, {From: 0, To: 2}, {From: 2, To: 3}, {From: 3, To: 4}}},
		{true, "(a|ab)*", "aba", []api.Span{{From: 0, To: 3}, {From: 2, To: 3}}},
		{true, "((a)|b)*", "ab", []api.Span{{From: 0, To: 2}, {From: 1, To: 2}, {From: -1, To: -1}}},
		{true, "(a*)*", "b", []api.Span{{}, {}}},
		{true, "(a*)+", "aa", []api.Span{{From: 0, To: 2}, {From: 0, To: 2}}},
		{true, "(a*){2}", "aa", []api.Span{{From: 0, To: 2}, {From: 2, To: 2}}},
		{false, `\(\(a\)\{0,1\}b\)*\2`, "aba", []api.Span{{From: 0, To: 3}, {From: 0, To: 2}, {From: 0, To: 1}}},
		{false, `\(\(a\)\{0,1\}b\)*\2`, "abb", nil},
		{false, `\(a\)*\1`, "aaa", []api.Span{{From: 0, To: 3}, {From: 1, To: 2}}},
		{false, `\(a*\)b\1`, "aaba", []api.Span{{From: 1, To: 4}, {From: 1, To: 2}}},
	} {
		got, ok := Find(Tree(c.ere, c.re), []byte(c.text), 0)
		if !slices.Equal(got, c.want) || ok != (c.want != nil) {
			t.Errorf("%s in %s: %v", c.re, c.text, got)
		}
	}
}
