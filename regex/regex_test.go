package regex

import (
	"bytes"
	"math/rand"
	"slices"
	"strings"
	"testing"

	"galley/api"
	"galley/backref"
	"galley/capture"
	"galley/derive"
	"galley/longest"
	"galley/machine"
	"galley/sample"
	"galley/syntax"
)

func compiled(t *testing.T, ere bool, s string) *Regex {
	t.Helper()
	r, e, at := Compile(ere, sample.Signs(s))
	if e != api.OK || at != 0 {
		t.Fatalf("%s: %d at %d", s, e, at)
	}
	return r
}

func all(r *Regex, text string) [][]api.Span {
	var l [][]api.Span
	for s := range r.All([]byte(text)) {
		l = append(l, s)
	}
	return l
}

func same(a, b [][]api.Span) bool {
	return slices.EqualFunc(a, b, func(x, y []api.Span) bool { return slices.Equal(x, y) })
}

// P12.1, P12.2
func TestCompile(t *testing.T) {
	for _, c := range []struct {
		ere bool
		s   string
		err api.Errno
		at  int
	}{{false, `a\{2`, api.ErrCount, 1}, {false, `\(a`, api.ErrParen, 0}, {false, "", api.ErrEmpty, 0}, {true, "a|", api.ErrEmpty, 2}, {true, "(", api.ErrParen, 0}, {true, "a|(", api.ErrParen, 2}, {true, "(a|", api.ErrEmpty, 3}, {true, "(a{255}){64}", api.ErrWeight, 12}, {false, "x[", api.ErrBrack, 1}, {true, strings.Repeat("a", api.MaxRegex+1), api.ErrSpent, api.MaxRegex}} {
		if r, e, at := Compile(c.ere, sample.Signs(c.s)); r != nil || e != c.err || at != c.at {
			t.Errorf("%s: %d at %d", c.s, e, at)
		}
	}
	for _, re := range [][]api.Node{nil, {{Op: api.OpBegin}, {Op: api.OpEnd}}, {{Op: api.OpRef, N: 1}}} {
		if r, e := New(re); r != nil || e != api.ErrShape {
			t.Errorf("%v: %d", re, e)
		}
	}
	for _, s := range []string{`\(a*\)b`, `\(a\)\(b\)\1`, "x"} {
		r := compiled(t, false, s)
		re, _, _ := syntax.Parse(false, sample.Signs(s))
		if !slices.Equal(r.Tree(), re) || r.Groups() != syntax.Groups(re) {
			t.Errorf("%s", s)
		}
		r.Tree()[0].Op = 0
		if !slices.Equal(r.Tree(), re) {
			t.Error("R5")
		}
		re2 := slices.Clone(re)
		again, _ := New(re2)
		re2[0].Op = api.OpBegin
		if !slices.Equal(again.Tree(), re) {
			t.Error("R5")
		}
	}
}

// P12.3
func TestFind(t *testing.T) {
	for _, c := range []struct {
		ere      bool
		re, text string
		from     int
		want     []api.Span
	}{
		{false, `\(a*\)b`, "xaab", 0, sample.Spans(1, 4, 1, 3)}, {false, `\(a*\)b`, "xaab", 4, nil}, {false, `\(a*\)b`, "xaab", 5, nil}, {false, `\(a*\)b`, "xaab", -1, nil}, {true, "(a|ab)(c|bcd)(d*)", "abcd", 0, sample.Spans(0, 4, 0, 2, 2, 3, 3, 4)},
		{false, `\(a\)\1`, "xaa", 0, sample.Spans(1, 3, 1, 2)}, {false, `\(a\)\1`, "xaa", 2, nil}, {false, `\(a\)\1`, "xaa", 4, nil}, {false, `\(a\)\1`, "xaa", -1, nil}, {true, "a*", "", 0, sample.Spans(0, 0)}, {true, "(a)|b", "b", 0, sample.Spans(0, 1, -1, -1)}, {true, "(x)?", "a", 1, sample.Spans(1, 1, -1, -1)},
	} {
		got, ok := compiled(t, c.ere, c.re).Find([]byte(c.text), c.from)
		if !slices.Equal(got, c.want) || ok != (c.want != nil) {
			t.Errorf("%s in %s from %d: %v", c.re, c.text, c.from, got)
		}
	}
}

// P12.4
func TestAll(t *testing.T) {
	for _, c := range []struct {
		ere      bool
		re, text string
		want     [][]api.Span
	}{
		{false, "x*", "axb", [][]api.Span{sample.Spans(0, 0), sample.Spans(1, 2), sample.Spans(3, 3)}}, {false, `\(a\)\1`, "aaaaa", [][]api.Span{sample.Spans(0, 2, 0, 1), sample.Spans(2, 4, 2, 3)}}, {false, "^a", "aaa", [][]api.Span{sample.Spans(0, 1)}}, {false, "$", "ab", [][]api.Span{sample.Spans(2, 2)}}, {false, "b*", "abc", [][]api.Span{sample.Spans(0, 0), sample.Spans(1, 2), sample.Spans(3, 3)}},
		{false, "a*", "baaac", [][]api.Span{sample.Spans(0, 0), sample.Spans(1, 4), sample.Spans(5, 5)}}, {false, "x", "", nil}, {false, "x*", "", [][]api.Span{sample.Spans(0, 0)}}, {true, "(a)|b*", "ab", [][]api.Span{sample.Spans(0, 1, 0, 1), sample.Spans(1, 2, -1, -1)}},
	} {
		r := compiled(t, c.ere, c.re)
		if got := all(r, c.text); !same(got, c.want) {
			t.Errorf("%s in %s: %v", c.re, c.text, got)
		}
	}
	r := compiled(t, true, "a")
	text := []byte("aaa")
	walk := r.All(text)
	text[1], text[2] = 'b', 'b'
	n := 0
	for range walk {
		n++
		break
	}
	for s := range walk {
		n++
		s[0] = api.Span{}
		r.Find([]byte("bbbbba"), 0) // a search between two matches changes nothing
	}
	if n != 4 {
		t.Errorf("%d matches", n)
	}
}

// What follows: the layers below say the same.
func TestBelow(t *testing.T) {
	r := rand.New(rand.NewSource(1))
	bits := []string{"a", "b", ".", `\(`, `\)`, "*", `\{1,2\}`, "^", "$", `\1`, "[ab]"}
	n, refs := 0, 0
	for n < 4000 {
		s := []string{"", `\(a*\)`, `\(.\)`}[r.Intn(3)]
		for range 1 + r.Intn(7) {
			s += bits[r.Intn(len(bits))]
		}
		re, e, _ := syntax.Parse(false, sample.Signs(s))
		if e != api.OK {
			continue
		}
		n++
		x := compiled(t, false, s)
		text := []byte("abbaabab"[:r.Intn(8)])
		before := bytes.Clone(text)
		for from := range len(text) + 1 {
			got, ok := x.Find(text, from)
			want, found := derive.Find(re, text, from)
			if !slices.Equal(got, want) || ok != found {
				t.Fatalf("%s in %s from %d: %v, not %v", s, text, from, got, want)
			}
			if b, is, e := backref.Find(re, text, from, 1<<62); !slices.Equal(b, got) || is != ok || e != api.OK {
				t.Fatalf("%s in %s from %d: backref: %v", s, text, from, b)
			}
			if syntax.Refs(re) {
				refs++
				continue
			}
			m, _ := machine.Compile(re)
			l, _ := longest.New(m)
			span, is := l.Find(text, from)
			if is != ok || ok && got[0] != span {
				t.Fatalf("%s in %s from %d: longest: %v", s, text, from, span)
			}
			if ok {
				if c, _ := capture.Best(re, text, span); !slices.Equal(c, got) {
					t.Fatalf("%s in %s from %d: capture: %v", s, text, from, c)
				}
			}
		}
		if !bytes.Equal(text, before) {
			t.Fatal("changed")
		}
		checkAll(t, x, string(text))
	}
	if refs < 300 {
		t.Error("too few references")
	}
}

// checkAll: the matches are sought as the document says.
func checkAll(t *testing.T, x *Regex, text string) {
	t.Helper()
	var want [][]api.Span
	place, end := 0, -1
	for {
		m, ok := x.Find([]byte(text), place)
		if !ok {
			break
		}
		if m[0].From == m[0].To && m[0].From == end {
			if place == len(text) {
				break
			}
			place++
			continue
		}
		want = append(want, m)
		place, end = m[0].To, m[0].To
	}
	if got := all(x, text); !same(got, want) {
		t.Fatalf("%v in %q: %v, not %v", x.Tree(), text, got, want)
	}
}

// P12.2 to P12.4, R3
func TestNone(t *testing.T) {
	for _, r := range []*Regex{nil, {}} {
		if s, ok := r.Find([]byte("a"), 0); s != nil || ok || r.Tree() != nil || r.Groups() != 0 || all(r, "a") != nil {
			t.Error("none")
		}
	}
}

// P12.5
func TestSameAgain(t *testing.T) {
	r := compiled(t, true, "(a+)b")
	first, _ := r.Find([]byte("xaab"), 0)
	first[1] = api.Span{}
	for range 3 {
		r.Find([]byte(strings.Repeat("a", 500)), 0)
		if got, _ := r.Find([]byte("xaab"), 0); !slices.Equal(got, sample.Spans(1, 4, 1, 3)) {
			t.Error(got)
		}
	}
}
