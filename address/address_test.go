package address

import (
	"math/rand"
	"reflect"
	"slices"
	"testing"

	"galley/api"
	"galley/class"
	"galley/derive"
	"galley/words"
)

func line(n int) api.Addr            { return api.Addr{Kind: api.AddrLine, N: n} }
func regexOf(re []api.Node) api.Addr { return api.Addr{Kind: api.AddrRegex, Re: re} }

var last = api.Addr{Kind: api.AddrLast}

// P20.1
func TestParse(t *testing.T) {
	aslashb := []api.Node{{Op: api.OpCat, Kids: 3}, {Op: api.OpSet, Set: class.Of('a')}, {Op: api.OpSet, Set: class.Of('/')}, {Op: api.OpSet, Set: class.Of('b')}}
	for _, c := range []struct {
		text string
		ere  bool
		want api.Addr
		at   int
	}{
		{"12,$p", false, line(12), 2}, {"$p", false, last, 1}, {"p", false, api.Addr{}, 0}, {"", false, api.Addr{}, 0}, {`/a\/b/p`, false, regexOf(aslashb), 6}, {`\,a/b,p`, false, regexOf(aslashb), 6}, {"//p", false, regexOf(nil), 2}, {`\xxp`, false, regexOf(nil), 3}, {"2147483647p", false, line(2147483647), 10}, {"007", false, line(7), 3}, {" 1", false, api.Addr{}, 0}, {"!p", false, api.Addr{}, 0}, {"\x00", false, api.Addr{}, 0},
		{"/a|b/", true, regexOf(derive.Tree(true, "a|b")), 5}, {`\|a\|b|`, true, regexOf([]api.Node{{Op: api.OpCat, Kids: 3}, {Op: api.OpSet, Set: class.Of('a')}, {Op: api.OpSet, Set: class.Of('|')}, {Op: api.OpSet, Set: class.Of('b')}}), 7}, {`/a*/,`, false, regexOf(derive.Tree(false, "a*")), 4},
	} {
		w := words.New([]byte(c.text))
		a, e := Parse(w, c.ere)
		if !reflect.DeepEqual(a, c.want) || e != api.OK || w.At() != c.at {
			t.Errorf("%q: %v %d at %d", c.text, a, e, w.At())
		}
	}
	for _, c := range []struct {
		text string
		want api.Errno
		at   int
	}{
		{"0p", api.ErrAddr, 1}, {"000p", api.ErrAddr, 3}, {"2147483648p", api.ErrAddr, 0}, {"99999999999999999999", api.ErrAddr, 0}, {"/ab", api.ErrPart, 1}, {"/a\nb/", api.ErrPart, 1}, {"/a**/", api.ErrRepeat, 5}, {`\`, api.ErrPart, 1}, {`\,a`, api.ErrPart, 2}, {`\\a\`, api.ErrPart, 2}, {"\\\na\n", api.ErrPart, 2}, {`/[/]/`, api.ErrBrack, 3}, {"/a\\\nb/", api.ErrPart, 1}, {"/", api.ErrPart, 1},
	} {
		w := words.New([]byte(c.text))
		a, e := Parse(w, false)
		if !reflect.DeepEqual(a, api.Addr{}) || e != c.want || w.At() != c.at {
			t.Errorf("%q: %v %d at %d", c.text, a, e, w.At())
		}
	}
	for text, want := range map[string]api.Errno{"/(/": api.ErrParen, `\;(;`: api.ErrParen, "/a|(/": api.ErrParen, "/(a|/": api.ErrEmpty, "/)/": api.ErrParen} {
		w := words.New([]byte(text + "p"))
		if a, e := Parse(w, true); !reflect.DeepEqual(a, api.Addr{}) || e != want || w.At() != len(text) {
			t.Errorf("%q: %v %d at %d", text, a, e, w.At())
		}
	}
	for _, w := range []*words.Words{nil, {}} {
		if a, e := Parse(w, false); !reflect.DeepEqual(a, api.Addr{}) || e != api.ErrArg {
			t.Error("none")
		}
	}
}

// P20.2
func TestPrint(t *testing.T) {
	alt := derive.Tree(true, "a|b")
	slash := derive.Tree(false, "a/")
	for _, c := range []struct {
		a    api.Addr
		ere  bool
		want string
		err  api.Errno
	}{
		{line(7), false, "7", 0}, {line(2147483647), false, "2147483647", 0}, {last, false, "$", 0}, {api.Addr{}, false, "", 0}, {regexOf(slash), false, `/a\//`, 0}, {regexOf(nil), true, "//", 0}, {regexOf(alt), true, "/a|b/", 0}, {regexOf(alt), false, "", api.ErrSpell}, {regexOf([]api.Node{{Op: api.OpSet, Set: class.Range('+', '\\')}}), false, `/[+-\]/`, 0}, {regexOf([]api.Node{{Op: api.OpSet, Set: class.Of('/', '\\')}}), false, `/[\/\]/`, 0},
		{line(0), false, "", api.ErrAddr}, {line(-1), false, "", api.ErrAddr}, {line(2147483648), false, "", api.ErrAddr}, {api.Addr{Kind: 4}, false, "", api.ErrAddr}, {api.Addr{Kind: -1}, false, "", api.ErrAddr}, {api.Addr{Kind: api.AddrLast, N: 1}, false, "", api.ErrAddr}, {api.Addr{N: 1}, false, "", api.ErrAddr}, {api.Addr{Kind: api.AddrLine, N: 1, Re: slash}, false, "", api.ErrAddr}, {api.Addr{Kind: api.AddrRegex, N: 1, Re: slash}, false, "", api.ErrAddr}, {api.Addr{Re: slash}, false, "", api.ErrAddr}, {api.Addr{Kind: api.AddrLast, Re: slash}, false, "", api.ErrAddr},
		{regexOf(slash[:2]), false, "", api.ErrAddr},
	} {
		b, e := Print(c.a, c.ere)
		if string(b) != c.want || e != c.err {
			t.Errorf("%v: %q %d", c.a, b, e)
		}
	}
	// There and back.
	r := rand.New(rand.NewSource(1))
	bits := []string{"a", "/", `\(`, `\)`, "*", "[/a]", `\.`, `\\`, "^", "$", `[\/]`, `\/`, `\n`}
	n := 0
	for range 20000 {
		text := "/"
		for range r.Intn(6) {
			text += bits[r.Intn(len(bits))]
		}
		w := words.New([]byte(text + "/"))
		a, e := Parse(w, false)
		if e != api.OK {
			continue
		}
		n++
		b, e := Print(a, false)
		back := words.New(append(slices.Clone(b), "p/"...))
		a2, e2 := Parse(back, false)
		if e != api.OK || e2 != api.OK || !reflect.DeepEqual(a, a2) || back.At() != len(b) {
			t.Fatalf("%q: %q", text, b)
		}
	}
	if n < 1000 {
		t.Error("too few")
	}
}

// asks: what Takes tells of the lines from 1 on, one behind the other; hits says which a regex selects.
func asks(g *Gates, c api.Cmd, hits ...bool) string {
	s := ""
	for i, h := range hits {
		takes, closes := g.Takes(0, c, i+1, i == len(hits)-1, func(api.Addr) bool { return h })
		if takes {
			s += "t"
		} else {
			s += "-"
		}
		if closes {
			s += "c"
		}
	}
	return s
}

// P20.4
func TestTakes(t *testing.T) {
	five := []bool{false, false, false, false, false}
	re := regexOf(nil)
	for i, c := range []struct {
		c    api.Cmd
		hits []bool
		want string
		open bool
	}{
		{api.Cmd{}, five, "ttttt", false}, {api.Cmd{Not: true}, five, "-----", false}, {api.Cmd{B: line(2)}, five, "ttttt", false}, {api.Cmd{A: line(2)}, five, "-t---", false}, {api.Cmd{A: line(2), Not: true}, five, "t-ttt", false}, {api.Cmd{A: last}, five, "----t", false},
		{api.Cmd{A: line(2), B: line(4)}, five, "-tttc-", false}, {api.Cmd{A: line(3), B: line(2)}, five, "--tc--", false}, {api.Cmd{A: line(3), B: line(3)}, five, "--tc--", false}, {api.Cmd{A: line(2), B: line(4), Not: true}, five, "t--" + "-ct", false}, {api.Cmd{A: line(4), B: line(9)}, five, "---tt", true}, {api.Cmd{A: line(4), B: last}, five, "---ttc", false}, {api.Cmd{A: last, B: last}, five, "----tc", false}, {api.Cmd{A: line(1), B: last}, []bool{false}, "tc", false},
		{api.Cmd{A: re, B: re}, []bool{true, false, true, true}, "tttct", true}, {api.Cmd{A: re}, []bool{true, false, true}, "t-t", false}, {api.Cmd{A: re, B: line(2)}, []bool{true, false, true, false, true}, "ttctc-tc", false}, {api.Cmd{A: line(2), B: re}, []bool{true, true, false, true, true}, "-tttc-", false}, {api.Cmd{A: api.Addr{Kind: 9}}, five, "-----", false}, {api.Cmd{A: line(2), B: api.Addr{Kind: 9}}, five, "-tttt", true}, {api.Cmd{A: api.Addr{Kind: 9}, Not: true}, five, "ttttt", false},
	} {
		g, e := New(1)
		if got := asks(g, c.c, c.hits...); got != c.want || e != api.OK || g.Open(0) != c.open {
			t.Errorf("%d: %s, not %s", i, got, c.want)
		}
	}
	g, _ := New(2)
	c := api.Cmd{A: line(2), B: line(4)}
	for i, want := range []string{"t", "tc"} {
		takes, closes := g.Takes(1, c, 2+5*i, false, nil)
		if takes != true || closes != (want == "tc") || g.Open(0) || g.Open(1) != (i == 0) {
			t.Errorf("line %d: %v %v", 2+5*i, takes, closes)
		}
	}
}

// P20.4: when a regex is asked, and of what.
func TestHits(t *testing.T) {
	re := derive.Tree(false, "ab")
	other := derive.Tree(false, "c")
	g, _ := New(1)
	var asked []api.Addr
	hits := func(a api.Addr) bool {
		asked = append(asked, api.Addr{Kind: a.Kind, Re: slices.Clone(a.Re)})
		for i := range a.Re {
			a.Re[i] = api.Node{}
		}
		return true
	}
	c := api.Cmd{A: regexOf(re), B: regexOf(other)}
	g.Takes(0, c, 1, true, hits)
	g.Takes(0, c, 2, true, hits)
	g.Takes(0, api.Cmd{B: regexOf(re)}, 3, true, hits)
	g.Takes(0, api.Cmd{A: line(1), B: regexOf(re)}, 3, true, hits)
	if want := []api.Addr{regexOf(derive.Tree(false, "ab")), regexOf(derive.Tree(false, "c"))}; !reflect.DeepEqual(asked, want) || !slices.Equal(re, want[0].Re) {
		t.Errorf("%v", asked)
	}
}

// P20.3, P20.5, P20.6
func TestGates(t *testing.T) {
	for n, want := range map[int]api.Errno{-1: api.ErrArg, 0: api.OK, 1: api.OK, api.MaxCmds: api.OK, api.MaxCmds + 1: api.ErrArg} {
		g, e := New(n)
		if e != want || (g == nil) != (want != api.OK) {
			t.Errorf("%d: %d", n, e)
		}
	}
	g, _ := New(2)
	c := api.Cmd{A: line(1), B: line(9)}
	for _, i := range []int{-1, 2, 1 << 40} {
		if takes, closes := g.Takes(i, c, 1, false, nil); takes || closes || g.Open(i) {
			t.Errorf("%d", i)
		}
		if takes, _ := g.Takes(i, api.Cmd{Not: true, A: line(2)}, 1, false, nil); takes {
			t.Errorf("%d", i)
		}
	}
	for _, g := range []*Gates{nil, {}} {
		if takes, closes := g.Takes(0, api.Cmd{}, 1, false, nil); takes || closes || g.Open(0) {
			t.Error("none")
		}
	}
}

// What follows: with Not just the other lines; a range of numbers; each command by itself.
func TestFollows(t *testing.T) {
	r := rand.New(rand.NewSource(2))
	kinds := func() api.Addr {
		return []api.Addr{line(1 + r.Intn(6)), line(1 + r.Intn(6)), last, regexOf(nil)}[r.Intn(4)]
	}
	for range 3000 {
		c := api.Cmd{A: kinds(), B: kinds()}
		not := c
		not.Not = true
		g, _ := New(2)
		alone, _ := New(1)
		n := 1 + r.Intn(7)
		for i := 1; i <= n; i++ {
			hit := r.Intn(3) == 0
			hits := func(api.Addr) bool { return hit }
			a, ac := g.Takes(0, c, i, i == n, hits)
			b, bc := g.Takes(1, not, i, i == n, hits)
			x, xc := alone.Takes(0, c, i, i == n, hits)
			if a == b || ac != bc || g.Open(0) != g.Open(1) || a != x || ac != xc || g.Open(0) != alone.Open(0) {
				t.Fatalf("%v: line %d", c, i)
			}
			if c.A.Kind == api.AddrLine && c.B.Kind == api.AddrLine {
				to := max(c.A.N, c.B.N)
				if a != (i >= c.A.N && i <= to) || ac != (i == to) {
					t.Fatalf("%v: line %d: %v %v", c, i, a, ac)
				}
			}
		}
	}
}
