package syntax

import (
	"math/rand"
	"slices"
	"strconv"
	"strings"
	"testing"

	"galley/api"
	"galley/class"
	"galley/sample"
)

// lisp: a tree as the document's examples write it.
func lisp(re []api.Node) string {
	s, _ := lispAt(re, 0)
	return s
}

func lispAt(re []api.Node, i int) (string, int) {
	n := re[i]
	i++
	word := ""
	switch n.Op {
	case api.OpSet:
		if class.Size(n.Set) == 1 {
			for b := range class.All(n.Set) {
				return string(rune(b)), i
			}
		}
		return "set" + strconv.Itoa(class.Size(n.Set)), i
	case api.OpBegin:
		return "^", i
	case api.OpEnd:
		return "$", i
	case api.OpRef:
		return "ref " + strconv.Itoa(n.N), i
	case api.OpCat:
		word = "cat"
	case api.OpAlt:
		word = "alt"
	case api.OpRep:
		word = "rep " + strconv.Itoa(n.Min) + " " + strconv.Itoa(n.Max)
	case api.OpGroup:
		word = "group " + strconv.Itoa(n.N)
	}
	for range n.Kids {
		var kid string
		kid, i = lispAt(re, i)
		word += " " + kid
	}
	return "(" + word + ")", i
}

func parsed(t *testing.T, ere bool, in, want string) {
	t.Helper()
	re, e, at := Parse(ere, sample.Marks(in))
	if e != api.OK || at != 0 {
		t.Errorf("%q: %d at %d", in, e, at)
		return
	}
	if got := lisp(re); got != want || !Shaped(re) {
		t.Errorf("%q: %s, not %s", in, got, want)
	}
}

func refused(t *testing.T, ere bool, in string, err api.Errno, at int) {
	t.Helper()
	re, e, got := Parse(ere, sample.Marks(in))
	if e != err || got != at || re != nil {
		t.Errorf("%q: %d at %d, not %d at %d", in, e, got, err, at)
	}
}

// P5.1
func TestBasic(t *testing.T) {
	for in, want := range map[string]string{
		"a*b": "(cat (rep 0 -1 a) b)", "*a": "(cat * a)", "^*a": "(cat ^ * a)", `\(*a\)`: "(group 1 (cat * a))", "a^b$c": "(cat a ^ b $ c)", `\(^a$\)`: "(group 1 (cat ^ a $))", `\(\)`: "(group 1 (cat))",
		`\(a\)\1\{2\}`: "(cat (group 1 a) (rep 2 2 ref 1))", "a": "a", "^": "^", "$": "$", "^$": "(cat ^ $)", "$a": "(cat $ a)", "a$": "(cat a $)", "$*": "(rep 0 -1 $)", "a^*": "(cat a (rep 0 -1 ^))",
		"**": "(rep 0 -1 *)", "^**": "(cat ^ (rep 0 -1 *))", `*\{2\}`: "(rep 2 2 *)", "^^": "(cat ^ ^)", "^^*": "(cat ^ (rep 0 -1 ^))", `a\{1,\}`: "(rep 1 -1 a)", `a\{0,255\}`: "(rep 0 255 a)", `a\{007\}`: "(rep 7 7 a)",
		`\.\[\]\*\^\$\\\/`: `(cat . [ ] * ^ $ \ /)`, `\n`: "\n", "a|b+?(){}": "(cat a | b + ? ( ) { })", ".": "set256", "[ab]*": "(rep 0 -1 set2)", `\(a\)*`: "(rep 0 -1 (group 1 a))", `x\(y\(z\)\)\2\1`: "(cat x (group 1 (cat y (group 2 z))) ref 2 ref 1)",
		`\(\(a\)\2\)\1`: "(cat (group 1 (cat (group 2 a) ref 2)) ref 1)", `a\(^*\)`: "(cat a (group 1 (cat ^ *)))", "[]]": "]", "{1}": "(cat { 1 })", "a,": "(cat a ,)", `a\{2,3\}b`: "(cat (rep 2 3 a) b)",
		"\x01(\x01*": "(cat ( *)", "a\x01*": "(cat a *)", "\x01^a": "(cat ^ a)", "a\x01$": "(cat a $)", "\x01a*": "(rep 0 -1 a)", "\x01[a]": "(cat [ a ])", "\x01\\n": `(cat \ n)`, "\x01^*": "(rep 0 -1 ^)", "\x01.": ".",
	} {
		parsed(t, false, in, want)
	}
	// The tree of an anchor and that of its byte are told alike above: they are parted here.
	re, _, _ := Parse(false, sample.Marks("a^b$c"))
	for _, n := range re[1:] {
		if n.Op != api.OpSet {
			t.Error("a^b$c has no anchor")
		}
	}
	re, _, _ = Parse(false, sample.Marks(`\(^a$\)`))
	if re[2].Op != api.OpBegin || re[4].Op != api.OpEnd {
		t.Error("anchors in a group")
	}
	re, _, _ = Parse(false, sample.Marks("^*$"))
	if re[1].Op != api.OpBegin || re[2].Op != api.OpSet || re[3].Op != api.OpEnd {
		t.Error("^*$")
	}
	re, _, _ = Parse(false, sample.Marks("\x01^\x01$"))
	if re[1].Op != api.OpSet || re[2].Op != api.OpSet {
		t.Error("plain anchors")
	}
}

// P5.1
func TestBasicFaults(t *testing.T) {
	for _, c := range []struct {
		in  string
		err api.Errno
		at  int
	}{
		{"", api.ErrEmpty, 0}, {`\(a\1\)`, api.ErrRef, 3}, {`a\{2,1\}`, api.ErrCount, 1}, {"a**", api.ErrRepeat, 2}, {`\{1\}`, api.ErrRepeat, 0}, {`a\|b`, api.ErrEscape, 1}, {`a\)`, api.ErrParen, 1}, {`\(a`, api.ErrParen, 0}, {`\)`, api.ErrParen, 0},
		{`\`, api.ErrEscape, 0}, {`a\`, api.ErrEscape, 1}, {`\a`, api.ErrEscape, 0}, {`\}`, api.ErrEscape, 0}, {`\+`, api.ErrEscape, 0}, {`\0`, api.ErrEscape, 0}, {"\\\x01n", api.ErrEscape, 0}, {"\\\x01.", api.ErrEscape, 0}, {"\\\n", api.ErrEscape, 0}, {"\\\x01(", api.ErrEscape, 0},
		{`^\{1\}`, api.ErrRepeat, 1}, {`\(\{1\}\)`, api.ErrRepeat, 2}, {`a*\{2\}`, api.ErrRepeat, 2}, {`a\{2\}*`, api.ErrRepeat, 6}, {`a\{2\}\{2\}`, api.ErrRepeat, 6}, {"***", api.ErrRepeat, 2},
		{`a\{`, api.ErrCount, 1}, {`a\{2`, api.ErrCount, 1}, {`a\{2,`, api.ErrCount, 1}, {`a\{2\`, api.ErrCount, 1}, {`a\{\}`, api.ErrCount, 1}, {`a\{,2\}`, api.ErrCount, 1}, {`a\{256\}`, api.ErrCount, 1}, {`a\{256,\}`, api.ErrCount, 1}, {`a\{1,256\}`, api.ErrCount, 1}, {`a\{2}`, api.ErrCount, 1}, {`a\{ 2\}`, api.ErrCount, 1}, {`a\{2,3,4\}`, api.ErrCount, 1}, {"a\\{\x012\\}", api.ErrCount, 1}, {"a\\{2\\\x01}", api.ErrCount, 1}, {"a\\{1\x01,2\\}", api.ErrCount, 1}, {`a\{99999999999999999999\}`, api.ErrCount, 1}, {`a\{1,x\}`, api.ErrCount, 1},
		{`\(a\(b`, api.ErrParen, 3}, {`\(a\(b\)`, api.ErrParen, 0}, {`\(a\)\)`, api.ErrParen, 5}, {`\(`, api.ErrParen, 0}, {`\1`, api.ErrRef, 0}, {`\(a\)\2`, api.ErrRef, 5}, {`\(\(a\)\1\)`, api.ErrRef, 7},
		{"[a", api.ErrBrack, 0}, {"x[b-a]", api.ErrRange, 2}, {"x[[:no:]]", api.ErrClass, 2}, {`\(a\)[`, api.ErrBrack, 5},
	} {
		refused(t, false, c.in, c.err, c.at)
	}
}

// P5.1
func TestExtended(t *testing.T) {
	for in, want := range map[string]string{
		"a|b+": "(alt a (rep 1 -1 b))", "()": "(group 1 (cat))", "a^b": "(cat a ^ b)", "a{0,255}": "(rep 0 255 a)", "a}": "(cat a })", "a]": "(cat a ])", "a?": "(rep 0 1 a)", "a{2}": "(rep 2 2 a)", "a{2,}": "(rep 2 -1 a)", "a*": "(rep 0 -1 a)",
		"(a)(b(c))|(d)": "(alt (cat (group 1 a) (group 2 (cat b (group 3 c)))) (group 4 d))", "(a|b|cd)*": "(rep 0 -1 (group 1 (alt a b (cat c d))))", "^|$": "(alt ^ $)", "(^a)": "(group 1 (cat ^ a))", "$^": "(cat $ ^)", `\n`: "\n",
		`\.\[\]\(\)\*\+\?\{\}\|\^\$\\\/`: `(cat . [ ] ( ) * + ? { } | ^ $ \ /)`, "()|a": "(alt (group 1 (cat)) a)", "(()|a)": "(group 1 (alt (group 2 (cat)) a))", "a,b": "(cat a , b)", "\x01(\x01*": "(cat ( *)", "\x01|": "|", "a\x01{2}": "(cat a { 2 })", ".": "set256", "[^a]+": "(rep 1 -1 set255)",
		"()*": "(rep 0 -1 (group 1 (cat)))",
	} {
		parsed(t, true, in, want)
	}
	for _, c := range []struct {
		in  string
		err api.Errno
		at  int
	}{
		{"", api.ErrEmpty, 0}, {"(|a)", api.ErrEmpty, 1}, {"a||b", api.ErrEmpty, 2}, {"a|", api.ErrEmpty, 2}, {"(a|", api.ErrEmpty, 3}, {"a|)", api.ErrParen, 2}, {"^*", api.ErrRepeat, 1}, {"a{,2}", api.ErrCount, 1}, {"a{256}", api.ErrCount, 1}, {")", api.ErrParen, 0}, {`\1`, api.ErrEscape, 0},
		{"|", api.ErrEmpty, 0}, {"|a", api.ErrEmpty, 0}, {"(a|)", api.ErrEmpty, 3}, {"(|)", api.ErrEmpty, 1}, {"(", api.ErrParen, 0}, {"((", api.ErrParen, 1}, {"a((", api.ErrParen, 2}, {"a|(", api.ErrParen, 2}, {"()(", api.ErrParen, 2}, {"(a|(", api.ErrParen, 3}, {"(|", api.ErrEmpty, 1}, {"((|", api.ErrEmpty, 2}, {"()|", api.ErrEmpty, 3}, {"(()", api.ErrParen, 0}, {"(a", api.ErrParen, 0}, {"((a", api.ErrParen, 1}, {"(()|", api.ErrEmpty, 4}, {"a)", api.ErrParen, 1}, {"|)", api.ErrEmpty, 0}, {"()|)", api.ErrParen, 3}, {"(a|b", api.ErrParen, 0},
		{"*", api.ErrRepeat, 0}, {"+", api.ErrRepeat, 0}, {"?a", api.ErrRepeat, 0}, {"{1}", api.ErrRepeat, 0}, {"a|*b", api.ErrRepeat, 2}, {"(*a)", api.ErrRepeat, 1}, {"a**", api.ErrRepeat, 2}, {"a+?", api.ErrRepeat, 2}, {"a{2}{3}", api.ErrRepeat, 4}, {"$*", api.ErrRepeat, 1}, {"a$+", api.ErrRepeat, 2},
		{`\`, api.ErrEscape, 0}, {`\a`, api.ErrEscape, 0}, {"\\\x01.", api.ErrEscape, 0}, {`(a)\1`, api.ErrEscape, 3}, {"a{", api.ErrCount, 1}, {"a{2", api.ErrCount, 1}, {"a{2,", api.ErrCount, 1}, {"a{2,1}", api.ErrCount, 1}, {"a{x}", api.ErrCount, 1}, {"a{1,2", api.ErrCount, 1}, {"a{}", api.ErrCount, 1},
		{"[", api.ErrBrack, 0}, {"a|[b-a]", api.ErrRange, 3},
	} {
		refused(t, true, c.in, c.err, c.at)
	}
}

// sided: the fault of an extended regex of a, (, ) and |, and its place, told by hand: of each group that is open its place, its bars and the parts of its last side.
func sided(s string) (api.Errno, int) {
	type group struct{ at, bars, parts int }
	all := []group{{at: -1}}
	for i := range len(s) {
		g := &all[len(all)-1]
		switch s[i] {
		case 'a':
			g.parts++
		case '(':
			g.parts++
			all = append(all, group{at: i})
		case '|':
			if g.parts == 0 {
				return api.ErrEmpty, i
			}
			g.bars++
			g.parts = 0
		case ')':
			if len(all) == 1 {
				return api.ErrParen, i
			}
			if g.parts == 0 && g.bars > 0 {
				return api.ErrEmpty, i
			}
			all = all[:len(all)-1]
		}
	}
	g := all[len(all)-1]
	if g.parts == 0 && (g.bars > 0 || g.at < 0) {
		return api.ErrEmpty, len(s)
	}
	if g.at >= 0 {
		return api.ErrParen, g.at
	}
	return api.OK, 0
}

// P5.1: ErrParen and ErrEmpty, held against a reading by hand.
func TestSides(t *testing.T) {
	rows := []string{""}
	for n := 0; n < len(rows); n++ {
		s := rows[n]
		want, place := sided(s)
		if re, e, at := Parse(true, sample.Marks(s)); e != want || at != place || (re != nil) != (want == api.OK) {
			t.Errorf("%q: %d at %d, not %d at %d", s, e, at, want, place)
		}
		if len(s) < 7 {
			rows = append(rows, s+"a", s+"(", s+")", s+"|")
		}
	}
}

// P5.1: the limits.
func TestLimits(t *testing.T) {
	a := strings.Repeat("a", api.MaxRegex)
	if re, e, _ := Parse(true, sample.Marks(a)); e != api.OK || len(re) != api.MaxRegex+1 {
		t.Error("MaxRegex")
	}
	refused(t, true, a+"a", api.ErrSpent, api.MaxRegex)
	refused(t, false, a+`\`, api.ErrSpent, api.MaxRegex)
	nest := func(n int) string { return strings.Repeat("(", n) + "a" + strings.Repeat(")", n) }
	if _, e, _ := Parse(true, sample.Marks(nest(api.MaxNest))); e != api.OK {
		t.Error("MaxNest")
	}
	refused(t, true, nest(api.MaxNest+1), api.ErrNest, api.MaxNest)
	refused(t, false, strings.Repeat(`\(`, api.MaxNest+1), api.ErrNest, 2*api.MaxNest)
	groups := strings.Repeat("(a)", api.MaxGroups)
	if re, e, _ := Parse(true, sample.Marks(groups)); e != api.OK || Groups(re) != api.MaxGroups {
		t.Error("MaxGroups")
	}
	refused(t, true, groups+"(", api.ErrGroups, 3*api.MaxGroups)
	refused(t, true, strings.Repeat("(a)", api.MaxGroups-api.MaxNest)+strings.Repeat("(", api.MaxNest+1), api.ErrNest, 3*(api.MaxGroups-api.MaxNest)+api.MaxNest)
	refused(t, true, "(a{255}){64}", api.ErrWeight, 12)
	refused(t, true, "((((a{255}){255}){255}){255}){255}", api.ErrWeight, 34)
	parsed(t, true, "(a{255}){63}", "(rep 63 63 (group 1 (rep 255 255 a)))")
	// A deep tree as Parse may make it at most: a bar, a row, a repetition, a group, again and again.
	s := "a"
	for range api.MaxNest {
		s = "(" + s + "|bc)*|de"
	}
	if re, e, at := Parse(true, sample.Marks("a"+s)); e != api.OK || !Shaped(re) {
		t.Errorf("deep: %d at %d", e, at)
	}
}

// P5.2
func TestWeight(t *testing.T) {
	for in, want := range map[string]int{"a": 1, "ab": 3, "a*": 2, "(a|b)": 4, "a{3}": 4, "a{0}": 2, "a{3,}": 5, "a+": 3, "a?": 2, "a{2,5}": 6, "(ab){2}": 9, "()": 2, "^": 1} {
		re, _, _ := Parse(true, sample.Marks(in))
		if got := Weight(re); got != want {
			t.Errorf("%s: %d, not %d", in, got, want)
		}
	}
	re, _, _ := Parse(false, sample.Marks(`\(a\)b\1`))
	if Weight(re) != 5 || Groups(re) != 1 || !Refs(re) || Behind(re, 0) != 5 || Behind(re, 1) != 3 || Behind(re, 2) != 3 || Behind(re, 4) != 5 || Behind(re, 5) != -1 || Behind(re, -1) != -1 {
		t.Error("P5.2")
	}
	if re, _, _ := Parse(true, sample.Marks("(a)(b)")); Refs(re) || Groups(re) != 2 {
		t.Error("P5.2")
	}
}

// P5.2
func TestShaped(t *testing.T) {
	set := api.Node{Op: api.OpSet, Set: class.Of('a')}
	cat := func(n int) api.Node { return api.Node{Op: api.OpCat, Kids: n} }
	rep := func(lo, hi int) api.Node { return api.Node{Op: api.OpRep, Min: lo, Max: hi, Kids: 1} }
	group := func(n int) api.Node { return api.Node{Op: api.OpGroup, N: n, Kids: 1} }
	ref := func(n int) api.Node { return api.Node{Op: api.OpRef, N: n} }
	alt := api.Node{Op: api.OpAlt, Kids: 2}
	for i, re := range [][]api.Node{
		{set}, {{Op: api.OpSet}}, {cat(0)}, {cat(2), set, set}, {alt, set, cat(0)}, {rep(0, 0), set}, {rep(255, -1), set}, {rep(3, 255), rep(0, -1), set}, {group(1), set}, {cat(2), group(1), set, ref(1)}, {{Op: api.OpBegin}}, {{Op: api.OpEnd}},
		{cat(3), group(1), group(2), set, ref(2), ref(1)}, {alt, group(1), set, ref(1)}, {rep(0, -1), {Op: api.OpBegin}}, {cat(2), cat(0), cat(0)},
	} {
		if !Shaped(re) || Behind(re, 0) != len(re) || Weight(re) == 0 {
			t.Errorf("%d: %s", i, lisp(re))
		}
	}
	wrong := [][]api.Node{
		nil, {}, {{}}, {{Op: 9}}, {{Op: -1}}, {set, set}, {cat(1), set}, {cat(2), set}, {cat(-1)}, {cat(1 << 60)}, {{Op: api.OpAlt, Kids: 1}, set}, {{Op: api.OpAlt}}, {{Op: api.OpRep, Max: -1}}, {{Op: api.OpRep, Max: -1, Kids: 2}, set, set}, {{Op: api.OpGroup, N: 1}},
		{rep(2, 1), set}, {rep(-1, 1), set}, {rep(0, -2), set}, {rep(256, -1), set}, {rep(0, 256), set}, {{Op: api.OpSet, Kids: 1}, set}, {{Op: api.OpBegin, Set: class.Of(1)}}, {{Op: api.OpEnd, N: 1}}, {{Op: api.OpSet, N: 1}}, {{Op: api.OpSet, Max: -1}}, {{Op: api.OpCat, Min: 1}},
		{{Op: api.OpRep, N: 1, Max: 1, Kids: 1}, set}, {{Op: api.OpGroup, N: 1, Max: 1, Kids: 1}, set}, {{Op: api.OpRef, Kids: 1, N: 1}, set}, {group(0), set}, {group(2), set}, {cat(2), group(2), set, group(1), set}, {cat(2), group(1), set, group(1), set},
		{ref(1)}, {cat(2), ref(1), group(1), set}, {group(1), cat(2), set, ref(1)}, {cat(2), group(1), set, ref(2)}, {cat(2), group(1), set, ref(0)}, {cat(2), group(1), set, ref(-1)}, {cat(2), group(1), set, ref(1 << 40)},
		{rep(255, 255), rep(64, 64), set}, {rep(255, -1), rep(63, -1), set}, {{Op: api.OpRep, Set: class.Of(1), Max: -1, Kids: 1}, set},
	}
	for i, re := range wrong {
		if Shaped(re) || Behind(re, 0) != -1 || Groups(re) != 0 || Refs(re) || Weight(re) != 0 {
			t.Errorf("%d: %v", i, re)
		}
	}
}

// P5.2: the limits of trees.
func TestShapedLimits(t *testing.T) {
	set := api.Node{Op: api.OpSet}
	groups := func(n int) []api.Node {
		re := []api.Node{{Op: api.OpCat, Kids: n}}
		for i := range n {
			re = append(re, api.Node{Op: api.OpGroup, N: i + 1, Kids: 1}, set)
		}
		return re
	}
	nest := func(n int, rest ...api.Node) []api.Node {
		var re []api.Node
		for i := range n {
			re = append(re, api.Node{Op: api.OpGroup, N: i + 1, Kids: 1})
		}
		return append(re, rest...)
	}
	deep := func(n int) []api.Node {
		var re []api.Node
		for range n {
			re = append(re, api.Node{Op: api.OpRep, Max: 1, Kids: 1})
		}
		return append(re, set)
	}
	wide := func(n int) []api.Node {
		re := []api.Node{{Op: api.OpCat, Kids: n}}
		for range n {
			re = append(re, set)
		}
		return re
	}
	for i, c := range []struct {
		good, bad []api.Node
	}{
		{groups(api.MaxGroups), groups(api.MaxGroups + 1)}, {nest(api.MaxNest, set), nest(api.MaxNest+1, set)}, {deep(4*api.MaxNest + 3), deep(4*api.MaxNest + 4)}, {wide(api.MaxWeight - 1), wide(api.MaxWeight)},
	} {
		if !Shaped(c.good) || Shaped(c.bad) {
			t.Errorf("%d: %v %v", i, Shaped(c.good), Shaped(c.bad))
		}
	}
	if Weight(wide(api.MaxWeight-1)) != api.MaxWeight {
		t.Error("MaxWeight")
	}
}

// some regex of few signs, often a good one.
func some(r *rand.Rand, ere bool) string {
	bits := []string{"a", "b", ".", "[ab]", `\(`, `\)`, "*", `\{1,2\}`, "^", "$", `\1`, `\2`, "\x01*", `\n`}
	if ere {
		bits = []string{"a", "b", ".", "[ab]", "(", ")", "*", "+", "{1,2}", "^", "$", "|", "\x01*", "?"}
	}
	s := ""
	for range 1 + r.Intn(8) {
		s += bits[r.Intn(len(bits))]
	}
	return s
}

// What follows: groups around a regex, sides side by side, and faults that stay.
func TestFollows(t *testing.T) {
	r := rand.New(rand.NewSource(1))
	good := 0
	for range 60000 {
		ere := r.Intn(2) == 0
		l, m := sample.Marks(some(r, ere)), sample.Marks(some(r, ere))
		re, e, at := Parse(ere, l)
		if at < 0 || at > len(l) {
			t.Fatal("place")
		}
		if e != api.OK {
			stay := e == api.ErrEscape || e == api.ErrRepeat || e == api.ErrRef || e == api.ErrNest || e == api.ErrGroups
			if stay && at+1 < len(l) {
				_, e2, at2 := Parse(ere, append(slices.Clone(l[:at+2]), m...))
				if e2 != e || at2 != at {
					t.Fatalf("%v: %d at %d, then %d at %d", l, e, at, e2, at2)
				}
			}
			continue
		}
		good++
		if !Shaped(re) || ere && Refs(re) {
			t.Fatalf("%v: %s", l, lisp(re))
		}
		if !Refs(re) {
			checkGrouped(t, ere, l, re)
		}
		if re2, e, _ := Parse(ere, m); ere && e == api.OK {
			checkSides(t, l, m, re, re2)
		}
	}
	if good < 5000 {
		t.Error("too few")
	}
}

// moved: re, each group's number n more.
func moved(re []api.Node, n int) []api.Node {
	out := slices.Clone(re)
	for i := range out {
		if out[i].Op == api.OpGroup {
			out[i].N += n
		}
	}
	return out
}

func checkGrouped(t *testing.T, ere bool, l []api.Mark, re []api.Node) {
	open, end := `\(`, `\)`
	if ere {
		open, end = "(", ")"
	}
	got, e, _ := Parse(ere, slices.Concat(sample.Marks(open), l, sample.Marks(end)))
	want := append([]api.Node{{Op: api.OpGroup, N: 1, Kids: 1}}, moved(re, 1)...)
	if e != api.OK || !slices.Equal(got, want) {
		t.Fatalf("%v: %s", l, lisp(re))
	}
}

func checkSides(t *testing.T, l, m []api.Mark, re, re2 []api.Node) {
	sides := func(re []api.Node) (int, []api.Node) {
		if re[0].Op == api.OpAlt {
			return re[0].Kids, re[1:]
		}
		return 1, re
	}
	n, a := sides(re)
	k, b := sides(moved(re2, Groups(re)))
	want := slices.Concat([]api.Node{{Op: api.OpAlt, Kids: n + k}}, a, b)
	got, e, _ := Parse(true, slices.Concat(l, sample.Marks("|"), m))
	if e != api.OK || !slices.Equal(got, want) {
		t.Fatalf("%v %v", l, m)
	}
}

// P5.3
func TestMemory(t *testing.T) {
	l := append(make([]api.Mark, 0, 20), sample.Marks("(a|[b-c])*d")...)
	re, _, _ := Parse(true, l)
	re2, _, _ := Parse(true, l)
	re[0].Op = 0
	if lisp(re2) != "(cat (rep 0 -1 (group 1 (alt a set2))) d)" || !slices.Equal(l, sample.Marks("(a|[b-c])*d")) || l[:20][15] != (api.Mark{}) {
		t.Error("memory")
	}
}
