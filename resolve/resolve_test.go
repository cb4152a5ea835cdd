package resolve

import (
	"math/rand"
	"reflect"
	"slices"
	"strconv"
	"strings"
	"testing"

	"galley/api"
	"galley/class"
	"galley/parse"
)

// cmds of a text: a name and, behind it, its text; W is an s with Write; each stands at its number of bytes.
func cmds(l ...string) []api.Cmd {
	var out []api.Cmd
	at := 0
	for _, s := range l {
		c := api.Cmd{Name: s[0], At: at, Text: []byte(s[1:])}
		if c.Name == 'W' {
			c.Name, c.Write = 's', true
		}
		out = append(out, c)
		at += len(s)
	}
	return out
}

// P22.1
func TestResolve(t *testing.T) {
	for i, c := range []struct {
		l     []api.Cmd
		to    []int
		files []string
	}{
		{cmds("{", "p", "}", "bx", ":x", "q"), []int{3, -1, -1, 5, -1, -1}, nil}, {cmds("b", "p"), []int{2, -1}, nil}, {cmds("wf", "Wg", "wf"), []int{-1, -1, -1}, []string{"f", "g"}}, {nil, nil, nil}, {cmds("{", "{", "}", "}", "tx", ":x"), []int{4, 3, -1, -1, 6, -1}, nil}, {cmds(":x", "tx", "{", "bx", "}"), []int{-1, 1, 5, 1, -1}, nil}, {cmds("rf", "Wh", "r.galley", "t"), []int{-1, -1, -1, 4}, []string{"h"}}, {cmds("{", ":x", "}", "bx"), []int{3, -1, -1, 2}, nil},
		{cmds("a.galley-x", "b.galley-y", ":.galley-y"), []int{-1, 3, -1}, nil},
	} {
		for _, quiet := range []bool{false, true} {
			p, e, at := Resolve(c.l, quiet)
			if !slices.Equal(p.To, c.to) || !slices.Equal(p.Files, c.files) || p.Quiet != quiet || !reflect.DeepEqual(p.Cmds, c.l) && len(c.l) > 0 || e != api.OK || at != 0 || !Good(p) {
				t.Errorf("%d: %v %d %d", i, p, e, at)
			}
		}
	}
}

// P22.1
func TestFaults(t *testing.T) {
	blocks := func(n int) []string { return slices.Repeat([]string{"{"}, n) }
	bad := func(l []api.Cmd, at int, name byte) []api.Cmd {
		l[at].Name = name
		return l
	}
	many := slices.Repeat([]string{"p"}, api.MaxCmds)
	for i, c := range []struct {
		l   []api.Cmd
		err api.Errno
		at  int
	}{
		{cmds("p", "p", "}"), api.ErrBlock, 2}, {cmds("{", "{", "}"), api.ErrBlock, 0}, {cmds("p", "{", "{"), api.ErrBlock, 1}, {cmds("p", "bx"), api.ErrLabel, 1}, {cmds(":x", "p", ":x"), api.ErrLabel, 3}, {cmds("bx", "p", "}"), api.ErrBlock, 3}, {cmds("p", "w.galley-a"), api.ErrFile, 1}, {cmds("r.galley-"), api.ErrFile, 0}, {cmds("W.galley-x"), api.ErrFile, 0}, {bad(cmds("p", "p"), 1, 'j'), api.ErrCmd, 1},
		{cmds("bx", "{"), api.ErrBlock, 2}, {cmds("p", "tx", "by"), api.ErrLabel, 1}, {cmds("w"), api.ErrCmd, 0}, {cmds("p", ":"), api.ErrCmd, 1}, {cmds(append(blocks(64), slices.Repeat([]string{"}"}, 64)...)...), api.OK, 0}, {cmds(blocks(65)...), api.ErrBlock, 64}, {cmds(blocks(64)...), api.ErrBlock, 0}, {cmds(many...), api.OK, 0}, {cmds(append(many, "w")...), api.ErrSpent, api.MaxCmds}, {cmds(append([]string{"}"}, many...)...), api.ErrBlock, 0}, {cmds("{", "}", "}", "w.galley-"), api.ErrBlock, 2}, {[]api.Cmd{{Name: 'p', At: -7}}, api.ErrCmd, -7},
		{cmds("w.galley-", "}"), api.ErrFile, 0}, {cmds(":x", "{", ":x"), api.ErrLabel, 3},
	} {
		p, e, at := Resolve(c.l, true)
		if e != c.err || at != c.at || e != api.OK && !reflect.DeepEqual(p, api.Program{}) {
			t.Errorf("%d: %d at %d", i, e, at)
		}
	}
}

// P22.2, P22.3
func TestGood(t *testing.T) {
	if !Good(api.Program{}) || !Good(api.Program{Quiet: true}) || Good(api.Program{To: []int{0}}) || Good(api.Program{Files: []string{"f"}}) {
		t.Error("no commands")
	}
	p, _, _ := Resolve(cmds("{", "wf", "}", "bx", ":x"), false)
	for i := range p.To {
		q := p
		q.To = slices.Clone(p.To)
		q.To[i]++
		if Good(q) {
			t.Errorf("To %d", i)
		}
	}
	for _, files := range [][]string{nil, {"g"}, {"f", "f"}} {
		q := p
		q.Files = files
		if Good(q) {
			t.Errorf("Files %v", files)
		}
	}
	q := p
	q.Cmds = slices.Clone(p.Cmds)
	q.Cmds[1].At = -1
	if Good(q) {
		t.Error("a command")
	}
	q.Cmds = p.Cmds[:4]
	if Good(q) {
		t.Error("fewer commands")
	}
	straight := api.Program{Cmds: cmds("p", "n", "q", "z", "}")}
	if !Straight(straight) || !Straight(api.Program{}) {
		t.Error("straight")
	}
	for _, s := range []string{"b", "t", "D"} {
		if Straight(api.Program{Cmds: cmds("p", s)}) {
			t.Errorf("%s", s)
		}
	}
}

// What follows: of a good program each jump leads where it should; a fault stays.
func TestFollows(t *testing.T) {
	r := rand.New(rand.NewSource(1))
	good := 0
	for range 20000 {
		var l []string
		for range r.Intn(9) {
			l = append(l, []string{"{", "}", "p", "bx", "ty", ":x", ":y", "b", "wf", "Wg", "n"}[r.Intn(11)])
		}
		c := cmds(l...)
		p, e, at := Resolve(c, false)
		more, e2, at2 := Resolve(append(slices.Clone(c), cmds("p")...), false)
		if e != api.OK {
			behind := e == api.ErrBlock && c[slices.IndexFunc(c, func(x api.Cmd) bool { return x.At == at })].Name == '{' || e == api.ErrLabel && strings.ContainsAny(string(c[slices.IndexFunc(c, func(x api.Cmd) bool { return x.At == at })].Name), "bt")
			if !behind && (e2 != e || at2 != at) {
				t.Fatalf("%v: %d at %d, then %d at %d", l, e, at, e2, at2)
			}
			continue
		}
		good++
		if !Good(p) || !Good(more) {
			t.Fatalf("%v", l)
		}
		checkJumps(t, p)
	}
	if good < 2000 {
		t.Error("too few")
	}
}

func checkJumps(t *testing.T, p api.Program) {
	t.Helper()
	for i, c := range p.Cmds {
		to := p.To[i]
		switch {
		case c.Name == '{':
			open := 0
			for k := i; k < to; k++ {
				open += strings.Count(string(p.Cmds[k].Name), "{") - strings.Count(string(p.Cmds[k].Name), "}")
				if open == 0 && k != to-1 {
					t.Fatalf("%v: %d", p, i)
				}
			}
			if p.Cmds[to-1].Name != '}' || open != 0 {
				t.Fatalf("%v: %d", p, i)
			}
		case (c.Name == 'b' || c.Name == 't') && len(c.Text) > 0:
			if p.Cmds[to-1].Name != ':' || string(p.Cmds[to-1].Text) != string(c.Text) {
				t.Fatalf("%v: %d", p, i)
			}
		case c.Name == 'b' || c.Name == 't':
			if to != len(p.Cmds) {
				t.Fatalf("%v: %d", p, i)
			}
		case to != -1:
			t.Fatalf("%v: %d", p, i)
		}
	}
}

// R5
func TestMemory(t *testing.T) {
	re := []api.Node{{Op: api.OpSet, Set: class.Of('a')}}
	make1 := func() []api.Cmd {
		l, _, e, _ := parse.Parse([]byte("/a/,/b/s/c/d&e/w f\na\\\nxy"), false)
		if e != api.OK {
			t.Fatal(strconv.Itoa(int(e)))
		}
		return l
	}
	l := make1()
	p, _, _ := Resolve(l, false)
	l[0].A.Re[0], l[0].B.Re[0], l[0].Re[0] = api.Node{}, api.Node{}, api.Node{}
	l[0].Fill[0].Text[0], l[0].Fill[1].Group, l[0].Text[0], l[1].Text[0] = '!', 7, '!', '!'
	if !reflect.DeepEqual(p.Cmds, make1()) || p.Cmds[0].A.Re[0] != re[0] || p.Files[0] != "f" {
		t.Error("kept")
	}
}
