package source

import (
	"bytes"
	"math/rand"
	"reflect"
	"slices"
	"strings"
	"testing"

	"galley/api"
	"galley/class"
	"galley/parse"
	"galley/resolve"
	"galley/table"
)

func set(b byte) api.Node { return api.Node{Op: api.OpSet, Set: class.Of(b)} }

func line(n int) api.Addr { return api.Addr{Kind: api.AddrLine, N: n} }

func tableOf(from, to string) api.Table {
	t, _ := table.New([]byte(from), []byte(to))
	return t
}

// P23.1
func TestPrint(t *testing.T) {
	last := api.Addr{Kind: api.AddrLast}
	aSlash := []api.Node{{Op: api.OpCat, Kids: 2}, set('a'), set('/')}
	text := func(s string) api.Piece { return api.Piece{Group: -1, Text: []byte(s)} }
	for _, c := range []struct {
		c    api.Cmd
		want string
	}{
		{api.Cmd{Name: 'p', A: line(1), B: last, Not: true}, "1,$!p\n"}, {api.Cmd{Name: 'b'}, "b\n"}, {api.Cmd{Name: 'b', Text: []byte("x")}, "b x\n"}, {api.Cmd{Name: 't', Text: []byte("x y")}, "t x y\n"}, {api.Cmd{Name: ':', Text: []byte("x")}, ":x\n"}, {api.Cmd{Name: 'r', Text: []byte("f")}, "r f\n"}, {api.Cmd{Name: 'w', Text: []byte("f ")}, "w f \n"},
		{api.Cmd{Name: 'a', Text: []byte("x\\\ny")}, "a\\\nx\\\\\\\ny\n"}, {api.Cmd{Name: 'i'}, "i\\\n\n"}, {api.Cmd{Name: 'c', A: line(3), Text: []byte(" x\n")}, "3c\\\n x\\\n\n"}, {api.Cmd{Name: 's', Re: aSlash, Fill: []api.Piece{{}, text("/\n")}, Count: 2, All: true, Write: true, Text: []byte("f")}, "s/a\\//&\\/\\n/2gw f\n"}, {api.Cmd{Name: 's'}, "s///\n"},
		{api.Cmd{Name: 's', Print: true, Fill: []api.Piece{{Group: 3}, text(`\&/`)}}, "s//\\3\\\\\\&\\//p\n"}, {api.Cmd{Name: 's', All: true, Print: true, Count: 1}, "s///1gp\n"}, {api.Cmd{Name: 'y', Table: tableOf("a\\", "/\n")}, "y/\\\\a/\\n\\//\n"}, {api.Cmd{Name: 'y', Table: tableOf("", "")}, "y///\n"}, {api.Cmd{Name: 'y', Table: tableOf("\nn", "n\n")}, "y/\\nn/n\\n/\n"}, {api.Cmd{Name: '{', A: api.Addr{Kind: api.AddrRegex}}, "//{\n"}, {api.Cmd{Name: '}'}, "}\n"},
		{api.Cmd{Name: 'p', A: api.Addr{Kind: api.AddrRegex, Re: aSlash}, B: line(9)}, "/a\\//,9p\n"}, {api.Cmd{Name: 'x', Not: true}, "!x\n"},
	} {
		b, e := Print([]api.Cmd{c.c}, false)
		if string(b) != c.want || e != api.OK {
			t.Errorf("%q, not %q (%d)", b, c.want, e)
		}
	}
	if b, e := Print(nil, false); len(b) != 0 || e != api.OK {
		t.Error("no commands")
	}
}

// P23.1
func TestFaults(t *testing.T) {
	alt := []api.Node{{Op: api.OpAlt, Kids: 2}, set('a'), set('b')}
	altAddr := api.Addr{Kind: api.AddrRegex, Re: alt}
	p := api.Cmd{Name: 'p'}
	long := api.Cmd{Name: 'a', Text: bytes.Repeat([]byte{'x'}, api.MaxScript-4)}
	longer := api.Cmd{Name: 'a', Text: bytes.Repeat([]byte{'x'}, api.MaxScript-3)}
	for i, c := range []struct {
		l    []api.Cmd
		ere  bool
		want api.Errno
	}{
		{[]api.Cmd{{Name: 'z'}}, false, api.ErrCmd}, {[]api.Cmd{{Name: 's', Re: alt}}, false, api.ErrSpell}, {[]api.Cmd{{Name: 's', Re: alt}}, true, api.OK}, {[]api.Cmd{{Name: 'p', A: altAddr}}, false, api.ErrSpell}, {[]api.Cmd{{Name: 'p', A: line(1), B: altAddr}}, false, api.ErrSpell}, {slices.Repeat([]api.Cmd{p}, api.MaxCmds), false, api.OK}, {slices.Repeat([]api.Cmd{p}, api.MaxCmds+1), false, api.ErrSpent}, {slices.Repeat([]api.Cmd{{Name: 'z'}}, api.MaxCmds+1), false, api.ErrSpent},
		{[]api.Cmd{{Name: 'p', A: altAddr}, {Name: 'z'}}, false, api.ErrSpell}, {[]api.Cmd{{Name: 'z'}, {Name: 'p', A: altAddr}}, false, api.ErrCmd}, {[]api.Cmd{{Name: 'p', A: altAddr, Count: 1}}, false, api.ErrCmd}, {[]api.Cmd{long}, false, api.OK}, {[]api.Cmd{longer}, false, api.ErrSpent}, {[]api.Cmd{long, p}, false, api.ErrSpent}, {[]api.Cmd{longer, longer, {Name: 'z'}}, false, api.ErrCmd}, {[]api.Cmd{longer, {Name: 's', Re: alt}}, false, api.ErrSpell}, {[]api.Cmd{p, {Name: 'b', Not: true, Text: []byte(" ")}}, false, api.ErrCmd},
	} {
		b, e := Print(c.l, c.ere)
		if e != c.want || e != api.OK && b != nil {
			t.Errorf("%d: %d", i, e)
		}
	}
}

// clean makes what may differ alike: places, and lists without elements.
func clean(l []api.Cmd) []api.Cmd {
	l = slices.Clone(l)
	for i := range l {
		l[i].At = 0
		if len(l[i].Text) == 0 {
			l[i].Text = nil
		}
	}
	return l
}

// What follows, and W6: what is written is read as the same commands; what was read is written.
func TestBack(t *testing.T) {
	r := rand.New(rand.NewSource(1))
	heads := []string{"", "1", "$", "/a\\/b*/", "//", "1,2", "$,/x/", "/\\n/,9", `\|a\|b|`, "0", "1,", "/[/]"}
	bodies := []string{"p", "{", "}", "=", "d", "D", "x", "q", "b", "b x;", "t y", ":x", ": y z", "r f", "w g h", "a\\\nx\\\ny\\\\", "i\\\n", "c\\\n \\\n", "s/a/b/", "s/\\(a\\)\\/*/\\1\\/&\\n/g2pw f", "s,a\\,b,/,3", "s//\\9/p", "y/ab\\n\\\\\\//\\nxyzw/", "y/a/a/", "s/a/\\\n\\&/", "s/[/]/x/", "s|[|]|x|", "#x", "s/^a\\{2,3\\}$/\\\\/"}
	read := 0
	for range 30000 {
		src := ""
		for range r.Intn(5) {
			src += heads[r.Intn(len(heads))]
			if r.Intn(4) == 0 {
				src += "!"
			}
			src += bodies[r.Intn(len(bodies))] + "\n"
		}
		l, _, e, _ := parse.Parse([]byte(src), false)
		if e != api.OK {
			continue
		}
		read++
		b, e := Print(l, false)
		back, quiet, e2, _ := parse.Parse(b, false)
		again, e3 := Print(back, false)
		if e != api.OK || e2 != api.OK || e3 != api.OK || quiet || !reflect.DeepEqual(clean(back), clean(l)) || !bytes.Equal(again, b) {
			t.Fatalf("%q: %q (%d %d)", src, b, e, e2)
		}
		p, e, _ := resolve.Resolve(l, false)
		q, e2, _ := resolve.Resolve(back, false)
		if e != e2 || !slices.Equal(p.To, q.To) || !slices.Equal(p.Files, q.Files) {
			t.Fatalf("%q: programs", src)
		}
		k := r.Intn(len(l) + 1)
		x, _ := Print(l[:k], false)
		y, _ := Print(l[k:], false)
		if !bytes.Equal(append(x, y...), b) {
			t.Fatalf("%q: rows", src)
		}
	}
	if read < 2000 {
		t.Error("too few")
	}
}

// P23.2
func TestMemory(t *testing.T) {
	l, _, _, _ := parse.Parse([]byte("s/a/b\\/c/\na\\\nx"), false)
	before, _, _, _ := parse.Parse([]byte("s/a/b\\/c/\na\\\nx"), false)
	b, _ := Print(l, false)
	b[0] = '!'
	if c, _ := Print(l, false); !strings.HasPrefix(string(c), "s/") || !reflect.DeepEqual(l, before) {
		t.Error("shared")
	}
}
