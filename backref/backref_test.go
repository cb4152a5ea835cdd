package backref

import (
	"math/rand"
	"slices"
	"strings"
	"testing"
	"time"

	"galley/api"
	"galley/capture"
	"galley/class"
	"galley/derive"
	"galley/sample"
	"galley/syntax"
)

// P11.1
func TestFind(t *testing.T) {
	for _, c := range []struct {
		re, text string
		from     int
		want     []api.Span
	}{
		{`\(a*\)b\1`, "aabaa", 0, sample.Spans(0, 5, 0, 2)}, {`\(a*\)b\1`, "aaba", 0, sample.Spans(1, 4, 1, 2)}, {`\(.*\)\1`, "abab", 0, sample.Spans(0, 4, 0, 2)}, {`\(.*\)\1`, "aba", 0, sample.Spans(0, 0, 0, 0)},
		{`\(\(a\)\{0,1\}b\)*\2`, "aba", 0, sample.Spans(0, 3, 0, 2, 0, 1)}, {`\(\(a\)\{0,1\}b\)*\2`, "abb", 0, nil}, {`\(a\)*\1`, "aaa", 0, sample.Spans(0, 3, 1, 2)}, {`\(a\)*\1`, "b", 0, nil},
		{`\(.\)\1`, "abccdd", 0, sample.Spans(2, 4, 2, 3)}, {`\(.\)\1`, "abccdd", 3, sample.Spans(4, 6, 4, 5)}, {`\(.\)\1`, "abccdd", 5, nil}, {`^\(.*\)x\1$`, "abxab", 0, sample.Spans(0, 5, 0, 2)}, {`\(a\)\(b\)\2\1`, "abba", 0, sample.Spans(0, 4, 0, 1, 1, 2)},
		{`\(a*\)*\1`, "aa", 0, sample.Spans(0, 2, 0, 1)}, {`\(a*\)\{2\}\1`, "aaa", 0, sample.Spans(0, 3, 3, 3)}, {`\(a\)\{0\}b\1`, "b", 0, nil}, {`\(\)\1\1`, "a", 1, sample.Spans(1, 1, 1, 1)}, {`a*`, "baa", 0, sample.Spans(0, 0)}, {`\(a\)\1\{2,3\}`, "aaaaa", 0, sample.Spans(0, 4, 0, 1)},
	} {
		re := derive.Tree(false, c.re)
		got, ok, e := Find(re, []byte(c.text), c.from, Enough(re, len(c.text)))
		if !slices.Equal(got, c.want) || ok != (c.want != nil) || e != api.OK {
			t.Errorf("%s in %q from %d: %v %v %d", c.re, c.text, c.from, got, ok, e)
		}
	}
	re := derive.Tree(false, `\(a\)\1`)
	for _, c := range []struct {
		re   []api.Node
		from int
		fuel int64
		want api.Errno
	}{{nil, 0, 9, api.ErrShape}, {nil, -1, -1, api.ErrShape}, {re[:1], 0, 9, api.ErrShape}, {re, -1, 9, api.ErrArg}, {re, 3, 9, api.ErrArg}, {re, 0, -1, api.ErrArg}, {re, 0, 0, api.ErrFuel}} {
		got, ok, e := Find(c.re, []byte("aa"), c.from, c.fuel)
		if got != nil || ok || e != c.want {
			t.Errorf("%v %d %d: %v %v %d", c.re, c.from, c.fuel, got, ok, e)
		}
	}
}

// P11.2
func TestEnough(t *testing.T) {
	deep := slices.Repeat([]api.Node{{Op: api.OpRep, Max: 1, Kids: 1}}, 29)
	for i, c := range []struct {
		re   []api.Node
		n    int
		want int64
	}{
		{derive.Tree(false, "a"), 0, 64}, {derive.Tree(false, `\(a\)\1`), 1, 2125764}, {append(deep, api.Node{Op: api.OpSet}), 10, 1 << 62}, {nil, 3, 0}, {derive.Tree(false, "a"), -1, 0}, {derive.Tree(false, "a"), 1<<63 - 1, 1 << 62},
		{derive.Tree(false, "a"), 1 << 10, 1026 * 1026 * 1026 * 1026 * 1026 * 1026}, {derive.Tree(false, "a"), 2046, 1 << 62}, {derive.Tree(false, "a*"), 1446, 1 << 62}, {derive.Tree(false, `\(a\)\(b\)\1\2\1`), 0, 8 << 14}, {derive.Tree(false, "a"), 1288, 1290 * 1290 * 1290 * 1290 * 1290 * 1290}, {derive.Tree(false, "a"), 1290, 1 << 62},
	} {
		if got := Enough(c.re, c.n); got != c.want {
			t.Errorf("%d: %d, not %d", i, got, c.want)
		}
	}
}

// some tree of few nodes with references; groups are numbered on from n, those that are over stand in ended.
func some(r *rand.Rand, deep int, n *int, ended *[]int) []api.Node {
	if deep == 0 || r.Intn(8) == 0 {
		if len(*ended) > 0 && r.Intn(2) == 0 {
			return []api.Node{{Op: api.OpRef, N: (*ended)[r.Intn(len(*ended))]}}
		}
		return [][]api.Node{{{Op: api.OpSet, Set: class.Of('a')}}, {{Op: api.OpSet, Set: class.Of('a')}}, {{Op: api.OpSet, Set: class.Of('b')}}, {{Op: api.OpSet, Set: class.Of('a', 'b')}}, {{Op: api.OpBegin}}, {{Op: api.OpEnd}}, {{Op: api.OpCat}}}[r.Intn(7)]
	}
	var out []api.Node
	group := 0
	switch r.Intn(7) {
	case 0, 1:
		out = []api.Node{{Op: api.OpCat, Kids: 2 + r.Intn(2)}}
	case 2:
		out = []api.Node{{Op: api.OpAlt, Kids: 2}}
	case 3, 4:
		hi := r.Intn(4) - 1
		lo := r.Intn(3)
		if hi >= 0 {
			lo = min(lo, hi)
		}
		out = []api.Node{{Op: api.OpRep, Min: lo, Max: hi, Kids: 1}}
	default:
		*n++
		group = *n
		out = []api.Node{{Op: api.OpGroup, N: *n, Kids: 1}}
	}
	for range out[0].Kids {
		out = append(out, some(r, deep-1, n, ended)...)
	}
	if group > 0 {
		*ended = append(*ended, group)
	}
	return out
}

// P11.1: held against all derivations, listed one by one.
func TestAll(t *testing.T) {
	r := rand.New(rand.NewSource(1))
	texts := []string{"", "a", "aa", "aab", "aba", "abab", "aaaa", "abaab"}
	refs, spent := 0, 0
	for k := 0; k < 9000; {
		n := 0
		var ended []int
		re := some(r, 2+r.Intn(4), &n, &ended)
		if len(re) > 13 || syntax.Weight(re) > 15 {
			continue
		}
		k++
		if syntax.Refs(re) {
			refs++
		}
		text := []byte(texts[r.Intn(len(texts))])
		from := r.Intn(len(text) + 1)
		want, found := derive.Find(re, text, from)
		enough := Enough(re, len(text))
		got, ok, e := Find(re, text, from, enough)
		if !slices.Equal(got, want) || ok != found || e != api.OK {
			t.Fatalf("%v in %q from %d: %v %v %d, not %v", re, text, from, got, ok, e, want)
		}
		// With less fuel the answer is the same, or ErrFuel.
		got, ok, e = Find(re, text, from, min(enough, int64(r.Intn(30))))
		switch {
		case e == api.ErrFuel && got == nil && !ok:
			spent++
		case !slices.Equal(got, want) || ok != found || e != api.OK:
			t.Fatalf("%v in %q from %d, little fuel: %v %v %d", re, text, from, got, ok, e)
		}
		if !syntax.Refs(re) {
			if c, ok := capture.Find(re, text, from); !slices.Equal(c, want) || ok != found {
				t.Fatalf("%v in %q from %d: capture: %v", re, text, from, c)
			}
		}
	}
	if refs < 1000 || spent < 100 {
		t.Errorf("%d %d", refs, spent)
	}
}

// P11.1: more referred groups than a state holds itself.
func TestMany(t *testing.T) {
	re := []api.Node{{Op: api.OpCat, Kids: 40}}
	for i := range 20 {
		re = append(re, api.Node{Op: api.OpGroup, N: i + 1, Kids: 1}, api.Node{Op: api.OpSet, Set: class.Range(0, 255)})
	}
	for i := range 20 {
		re = append(re, api.Node{Op: api.OpRef, N: 20 - i})
	}
	text := []byte("xabcdefghijklmnopqrsttsrqponmlkjihgfedcba")
	want := sample.Spans(1, 41)
	for i := range 20 {
		want = append(want, api.Span{From: 1 + i, To: 2 + i})
	}
	if got, ok, e := Find(re, text, 0, 1<<62); !ok || e != api.OK || !slices.Equal(got, want) {
		t.Errorf("%v %v %d", got, ok, e)
	}
	if got, ok, e := Find(re, text[:40], 0, 1<<62); ok || e != api.OK || got != nil {
		t.Errorf("%v %v %d", got, ok, e)
	}
}

// What follows: something that stands behind itself once more.
func TestTwice(t *testing.T) {
	for _, s := range []string{"a*", "a|ab|b", "[ab]+", "(a|b){2,3}"} {
		re := derive.Tree(true, "("+s+")")
		twice := append([]api.Node{{Op: api.OpCat, Kids: 2}}, re...)
		twice = append(twice, api.Node{Op: api.OpRef, N: 1})
		for _, text := range []string{"", "aab", "abab", "babbab", "aaaaa"} {
			var want []api.Span
			for from := 0; from <= len(text) && want == nil; from++ {
				for k := (len(text) - from) / 2; k >= 0 && want == nil; k-- {
					if text[from:from+k] == text[from+k:from+2*k] && slices.Contains(derive.Ends(re, []byte(text), from), from+k) {
						want = sample.Spans(from, from+2*k, from, from+k)
					}
				}
			}
			got, ok, _ := Find(twice, []byte(text), 0, 1<<62)
			if ok != (want != nil) || ok && !slices.Equal(got[:2], want) {
				t.Errorf("%s in %q: %v, not %v", s, text, got, want)
			}
		}
	}
}

// Texts of some length take no long time.
func TestLong(t *testing.T) {
	began := time.Now()
	line := strings.Repeat("some words of a line, ", 20)
	re := derive.Tree(false, `^\(.*\)x\1$`)
	if got, ok, _ := Find(re, []byte(line+"x"+line), 0, 1<<62); !ok || got[1].To != len(line) {
		t.Error(got)
	}
	if _, ok, _ := Find(re, []byte(line+"x"+line+"y"), 0, 1<<62); ok {
		t.Error("no match")
	}
	re = derive.Tree(false, `\(a*\)*b\1`)
	if _, ok, _ := Find(re, []byte(strings.Repeat("a", 60)), 0, 1<<62); ok {
		t.Error("no match")
	}
	re = derive.Tree(false, `\(.\)\1`)
	if _, ok, _ := Find(re, []byte(strings.Repeat("ab", 2000)), 0, 1<<62); ok {
		t.Error("no match")
	}
	if got, ok, _ := Find(re, []byte(strings.Repeat("ab", 2000)+"b"), 0, 1<<62); !ok || got[0] != (api.Span{From: 3999, To: 4001}) {
		t.Error(got)
	}
	if d := time.Since(began); d > 20*time.Second {
		t.Errorf("%v", d)
	}
}

// P11.3
func TestMemory(t *testing.T) {
	re := derive.Tree(false, `\(a\)\1`)
	text := []byte("xaa")
	got, _, _ := Find(re, text, 0, 1<<62)
	got[0] = api.Span{}
	if again, _, _ := Find(re, text, 0, 1<<62); !slices.Equal(again, sample.Spans(1, 3, 1, 2)) || string(text) != "xaa" || !slices.Equal(re, derive.Tree(false, `\(a\)\1`)) {
		t.Error("memory")
	}
	if _, ok, e := Find(derive.Tree(false, "a*"), nil, 0, 64*4); !ok || e != api.OK {
		t.Error("R4")
	}
}
