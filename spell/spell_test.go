package spell

import (
	"bytes"
	"math/rand"
	"slices"
	"testing"

	"galley/api"
	"galley/class"
	"galley/sample"
	"galley/syntax"
)

func lit(s string) api.Node         { return api.Node{Op: api.OpSet, Set: class.Of([]byte(s)...)} }
func cat(n int) api.Node            { return api.Node{Op: api.OpCat, Kids: n} }
func alt(n int) api.Node            { return api.Node{Op: api.OpAlt, Kids: n} }
func rep(lo, hi int) api.Node       { return api.Node{Op: api.OpRep, Min: lo, Max: hi, Kids: 1} }
func group(n int) api.Node          { return api.Node{Op: api.OpGroup, N: n, Kids: 1} }
func ref(n int) api.Node            { return api.Node{Op: api.OpRef, N: n} }
func tree(l ...api.Node) []api.Node { return l }

var begin, end = api.Node{Op: api.OpBegin}, api.Node{Op: api.OpEnd}

// P6.1
func TestPrint(t *testing.T) {
	both := func(re []api.Node, basic, extended string) {
		t.Helper()
		for _, ere := range []bool{false, true} {
			want := basic
			if ere {
				want = extended
			}
			l, e := Print(ere, re)
			if want == "no" {
				if e != api.ErrSpell || l != nil {
					t.Errorf("%v %v: %s, %d", ere, re, sample.Text(l), e)
				}
			} else if sample.Text(l) != want || e != api.OK {
				t.Errorf("%v: %q, not %q (%d)", ere, sample.Text(l), want, e)
			}
		}
	}
	a, b := lit("a"), lit("b")
	both(tree(cat(2), rep(0, -1), a, b), "a*b", "a*b")
	both(tree(cat(2), lit("*"), a), `\*a`, `\*a`)
	both(tree(group(1), cat(3), begin, a, end), `\(^a$\)`, `(^a$)`)
	both(tree(cat(2), a, begin), "no", "a^")
	both(tree(cat(2), end, a), "no", "$a")
	both(tree(cat(2), begin, end), "^$", "^$")
	both(tree(cat(3), begin, begin, a), "no", "^^a")
	both(tree(begin), "^", "^")
	both(tree(end), "$", "$")
	both(tree(rep(2, 2), a), `a\{2\}`, "a{2}")
	both(tree(rep(1, -1), a), `a\{1,\}`, "a+")
	both(tree(rep(0, 1), a), `a\{0,1\}`, "a?")
	both(tree(rep(1, 1), a), `a\{1\}`, "a{1}")
	both(tree(rep(0, 0), a), `a\{0\}`, "a{0}")
	both(tree(rep(3, -1), a), `a\{3,\}`, "a{3,}")
	both(tree(rep(1, 2), a), `a\{1,2\}`, "a{1,2}")
	both(tree(rep(10, 255), a), `a\{10,255\}`, "a{10,255}")
	both(tree(alt(2), a, rep(1, -1), b), "no", "a|b+")
	both(tree(cat(3), a, begin, b), "no", "a^b")
	both(tree(rep(0, 1), group(1), cat(0)), `\(\)\{0,1\}`, "()?")
	both(tree(rep(0, -1), rep(0, -1), a), "no", "no")
	both(tree(rep(0, -1), begin), "no", "no")
	both(tree(rep(0, -1), end), "no", "no")
	both(tree(rep(0, -1), cat(0)), "no", "no")
	both(tree(cat(0)), "no", "no")
	both(tree(cat(2), a, cat(0)), "no", "no")
	both(tree(cat(2), a, cat(2), a, b), "no", "no")
	both(tree(alt(2), a, cat(0)), "no", "no")
	both(tree(alt(2), a, alt(2), a, b), "no", "no")
	both(tree(cat(2), a, alt(2), a, b), "no", "no")
	both(tree(group(1), alt(2), cat(2), a, b, end), "no", "(ab|$)")
	both(tree(group(1), alt(2), cat(0), a), "no", "no")
	both(tree(cat(2), group(1), a, ref(1)), `\(a\)\1`, "no")
	both(tree(cat(2), group(1), a, rep(0, -1), ref(1)), `\(a\)\1*`, "no")
	both(tree(lit("ab")), "[a-b]", "[a-b]")
	both(tree(lit("")), "[^\x00-\xff]", "[^\x00-\xff]")
	both(tree(lit("\n")), `\n`, `\n`)
	both(tree(lit("]")), "]", "]")
	both(tree(lit("/")), "/", "/")
	both(tree(api.Node{Op: api.OpSet, Set: class.Range(0, 255)}), ".", ".")
	var special []api.Node
	for _, x := range "()+?{|}].[*^$\\/" {
		special = append(special, lit(string(x)))
	}
	both(append(tree(cat(len(special))), special...), `()+?{|}]\.\[\*\^\$\\/`, `\(\)\+\?\{\|}]\.\[\*\^\$\\/`)
	var groups []api.Node
	for i := range 10 {
		groups = append(groups, group(i+1), a)
	}
	both(append(append(tree(cat(11)), groups...), ref(9)), `\(a\)\(a\)\(a\)\(a\)\(a\)\(a\)\(a\)\(a\)\(a\)\(a\)\9`, "no")
	both(append(append(tree(cat(11)), groups...), ref(10)), "no", "no")
	for _, re := range [][]api.Node{nil, {a, a}, {cat(1), a}, {ref(1)}} {
		if l, e := Print(true, re); l != nil || e != api.ErrShape {
			t.Errorf("%v: %d", re, e)
		}
	}
}

// P6.1: a spelling that is too long.
func TestLong(t *testing.T) {
	row := func(n int, s string) []api.Node {
		re := tree(cat(n))
		for range n {
			re = append(re, lit(s))
		}
		return re
	}
	if l, e := Print(true, row(api.MaxRegex, "a")); e != api.OK || len(l) != api.MaxRegex {
		t.Error("MaxRegex")
	}
	for _, re := range [][]api.Node{row(api.MaxRegex+1, "a"), row(api.MaxRegex/2+1, "."), row(api.MaxWeight-1, "ab")} {
		if l, e := Print(false, re); l != nil || e != api.ErrSpell {
			t.Errorf("%d: %d", len(re), e)
		}
	}
}

// some tree, often one that has a spelling; groups are numbered on from n.
func some(r *rand.Rand, deep int, n *int) []api.Node {
	kids := func(k int) []api.Node {
		var l []api.Node
		for range k {
			l = append(l, some(r, deep-1, n)...)
		}
		return l
	}
	if deep == 0 {
		return [][]api.Node{{lit("a")}, {lit("]-")}, {lit("\n")}, {lit("*")}, {begin}, {end}, {cat(0)}, {{Op: api.OpSet, Set: class.Not(class.Of('x'))}}, {lit("{")}}[r.Intn(9)]
	}
	switch r.Intn(6) {
	case 0:
		k := 2 + r.Intn(3)
		return append(tree(cat(k)), kids(k)...)
	case 1:
		k := 2 + r.Intn(2)
		return append(tree(alt(k)), kids(k)...)
	case 2, 3:
		hi := r.Intn(4) - 1
		return append(tree(rep(max(0, min(r.Intn(3), hi)), hi)), kids(1)...)
	case 4:
		*n++
		return append(tree(group(*n)), kids(1)...)
	}
	return kids(1)
}

// What follows: what Print answers is read as the tree, and what is read is printed.
func TestBack(t *testing.T) {
	r := rand.New(rand.NewSource(1))
	spelled := 0
	for range 60000 {
		n := 0
		re := some(r, r.Intn(5), &n)
		ere := r.Intn(2) == 0
		l, e := Print(ere, re)
		if e != api.OK {
			continue
		}
		spelled++
		for _, m := range l {
			if m.Plain || m.Byte == '\n' {
				t.Fatalf("%q", sample.Text(l))
			}
		}
		if back, e, _ := syntax.Parse(ere, l); e != api.OK || !slices.Equal(back, re) {
			t.Fatalf("%q: %v", sample.Text(l), re)
		}
	}
	if spelled < 5000 {
		t.Error("too few are spelled")
	}
	bits := []string{"a", ".", "[a-]", `\(`, `\)`, "*", `\{1,2\}`, "^", "$", `\1`, "(", ")", "{3,}", "|", "+", "?", `\n`, "/", `\.`, "]", "}"}
	parsed := 0
	for range 100000 {
		s := ""
		for range 1 + r.Intn(7) {
			s += bits[r.Intn(len(bits))]
		}
		ere := r.Intn(2) == 0
		re, e, _ := syntax.Parse(ere, sample.Signs(s))
		if e != api.OK {
			continue
		}
		parsed++
		l, e := Print(ere, re)
		back, e2, _ := syntax.Parse(ere, l)
		if e != api.OK || e2 != api.OK || !slices.Equal(back, re) {
			t.Fatalf("%q: %q, %d, %d", s, sample.Text(l), e, e2)
		}
	}
	if parsed < 5000 {
		t.Error("too few are read")
	}
}

// P6.2
func TestText(t *testing.T) {
	plain := api.Mark{Byte: '/', Plain: true}
	join := func(l ...[]api.Mark) []api.Mark { return slices.Concat(l...) }
	for i, c := range []struct {
		l     []api.Mark
		delim byte
		want  string
		ok    bool
	}{
		{sample.Signs("a/"), '/', "", false}, {sample.Signs("a/"), ',', "a/", true}, {join(sample.Signs("a"), []api.Mark{plain}, sample.Signs("b")), '/', `a\/b`, true}, {join(sample.Signs("a"), []api.Mark{plain}, sample.Signs("b")), ',', "", false},
		{sample.Signs(`\`), '/', "", false}, {join(sample.Signs(`\`), []api.Mark{plain}), '/', "", false}, {sample.Signs(`\\n`), '/', `\\n`, true}, {sample.Signs(`\\n`), 'n', "", false}, {sample.Signs("a\n"), '/', "", false}, {sample.Signs("\\\n"), '/', "\\\n", true},
		{nil, '/', "", true}, {nil, '\\', "", false}, {nil, '\n', "", false}, {sample.Signs(`\n`), 'n', "", false}, {sample.Signs(`\/`), '/', "", false}, {[]api.Mark{{Byte: '\\', Plain: true}}, '/', "", false}, {[]api.Mark{plain, plain}, '/', `\/\/`, true}, {sample.Signs(`\\\`), '/', "", false}, {sample.Signs(`\\`), '/', `\\`, true}, {sample.Signs("\x00\xff"), 0, "", false}, {sample.Signs("\xff"), 0, "\xff", true},
	} {
		b, ok := Text(c.l, c.delim)
		if string(b) != c.want || ok != c.ok || !ok && b != nil {
			t.Errorf("%d: %q %v", i, b, ok)
		}
	}
}

// What follows: the bytes read as a part are the marks again.
func TestTextBack(t *testing.T) {
	r := rand.New(rand.NewSource(2))
	seen := map[string][]api.Mark{}
	n := 0
	for range 200000 {
		var l []api.Mark
		for range r.Intn(6) {
			l = append(l, api.Mark{Byte: "\\/\na"[r.Intn(4)], Plain: r.Intn(3) == 0})
		}
		b, ok := Text(l, '/')
		if !ok {
			continue
		}
		n++
		if m, was := seen[string(b)]; was && !slices.Equal(l, m) {
			t.Fatalf("%q: %v and %v", b, l, m)
		}
		seen[string(b)] = l
		var back []api.Mark
		for in := b; len(in) > 0; {
			switch {
			case in[0] != '\\':
				back = append(back, api.Mark{Byte: in[0]})
				in = in[1:]
			case in[1] == '/':
				back = append(back, api.Mark{Byte: '/', Plain: true})
				in = in[2:]
			default:
				back = append(back, api.Mark{Byte: '\\'}, api.Mark{Byte: in[1]})
				in = in[2:]
			}
		}
		if !slices.Equal(back, l) || bytes.Contains(bytes.ReplaceAll(bytes.ReplaceAll(b, []byte(`\\`), nil), []byte(`\/`), nil), []byte("/")) {
			t.Fatalf("%q: %v", b, l)
		}
	}
	if n < 1000 {
		t.Error("too few")
	}
}

// P6.3
func TestMemory(t *testing.T) {
	re := tree(cat(2), lit("a"), lit("b"))
	l, _ := Print(true, re)
	l[0].Byte = 'x'
	if m, _ := Print(true, re); sample.Text(m) != "ab" {
		t.Error("shared")
	}
}
