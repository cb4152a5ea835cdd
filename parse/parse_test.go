package parse

import (
	"math/rand"
	"reflect"
	"strings"
	"testing"

	"galley/api"
	"galley/class"
	"galley/syntax"
	"galley/table"
)

func set(b byte) api.Node { return api.Node{Op: api.OpSet, Set: class.Of(b)} }

func regexOf(b byte) api.Addr { return api.Addr{Kind: api.AddrRegex, Re: []api.Node{set(b)}} }

func line(n int) api.Addr { return api.Addr{Kind: api.AddrLine, N: n} }

func text(s string) []api.Piece { return []api.Piece{{Group: -1, Text: []byte(s)}} }

// clean makes lists without elements nil, so that commands can be compared.
func clean(l []api.Cmd) []api.Cmd {
	for i := range l {
		if len(l[i].Text) == 0 {
			l[i].Text = nil
		}
	}
	return l
}

// P21.1
func TestParse(t *testing.T) {
	last := api.Addr{Kind: api.AddrLast}
	ab, _ := table.New([]byte("ab"), []byte("ba"))
	a := []api.Node{set('a')}
	aBar := []api.Node{{Op: api.OpCat, Kids: 3}, set('a'), set('|'), set('b')}
	for _, c := range []struct {
		in    string
		ere   bool
		want  []api.Cmd
		quiet bool
	}{
		{"1,/x/!p;p", false, []api.Cmd{{Name: 'p', A: line(1), B: regexOf('x'), Not: true, At: 6}, {Name: 'p', At: 8}}, false}, {"#n\n$d", false, []api.Cmd{{Name: 'd', A: last, At: 4}}, true}, {"#no", false, nil, false}, {"#n", false, nil, true}, {" #n\n", false, nil, false}, {"#n\r\n", false, nil, false}, {"", false, nil, false}, {" ;\t\n#x\n;", false, nil, false},
		{"/a/{s//b/2g;bx y\n}", false, []api.Cmd{{Name: '{', A: regexOf('a'), At: 3}, {Name: 's', At: 4, Fill: text("b"), Count: 2, All: true}, {Name: 'b', At: 12, Text: []byte("x y")}, {Name: '}', At: 17}}, false},
		{"a\\\nt\\\nu", false, []api.Cmd{{Name: 'a', Text: []byte("t\nu")}}, false}, {"s/a/b/w f ;p", false, []api.Cmd{{Name: 's', Re: a, Fill: text("b"), Write: true, Text: []byte("f ;p")}}, false}, {"y/ab/ba/", false, []api.Cmd{{Name: 'y', Table: ab}}, false}, {"s|a\\|b|&|", false, []api.Cmd{{Name: 's', Re: aBar, Fill: []api.Piece{{}}}}, false},
		{"p}", false, []api.Cmd{{Name: 'p'}, {Name: '}', At: 1}}, false}, {"{p}", false, []api.Cmd{{Name: '{'}, {Name: 'p', At: 1}, {Name: '}', At: 2}}, false}, {"{}", false, []api.Cmd{{Name: '{'}, {Name: '}', At: 1}}, false}, {"p#x\nq", false, []api.Cmd{{Name: 'p'}, {Name: 'q', At: 4}}, false}, {"{ ;p", false, []api.Cmd{{Name: '{'}, {Name: 'p', At: 3}}, false},
		{" 1 , 2 ! ! p ;", false, []api.Cmd{{Name: 'p', A: line(1), B: line(2), Not: true, At: 11}}, false}, {"! p", false, []api.Cmd{{Name: 'p', Not: true, At: 2}}, false}, {"1!!p", false, []api.Cmd{{Name: 'p', A: line(1), Not: true, At: 3}}, false}, {"//p", false, []api.Cmd{{Name: 'p', A: api.Addr{Kind: api.AddrRegex}, At: 2}}, false}, {`\xaxp`, false, []api.Cmd{{Name: 'p', A: regexOf('a'), At: 4}}, false},
		{": x ;\t\nb x ;\nt", false, []api.Cmd{{Name: ':', Text: []byte("x ;")}, {Name: 'b', At: 7, Text: []byte("x ;")}, {Name: 't', At: 13}}, false}, {"b\nb ;\nb}", false, []api.Cmd{{Name: 'b'}, {Name: 'b', At: 2, Text: []byte(";")}, {Name: 'b', At: 6, Text: []byte("}")}}, false},
		{"r f \nw\tg;#", false, []api.Cmd{{Name: 'r', Text: []byte("f ")}, {Name: 'w', At: 5, Text: []byte("g;#")}}, false}, {"i \\\n\nc\t\\\n\\a", false, []api.Cmd{{Name: 'i'}, {Name: 'c', At: 5, Text: []byte("a")}}, false}, {"s/a//", false, []api.Cmd{{Name: 's', Re: a}}, false}, {"s/a/b/gp3 ;p", false, []api.Cmd{{Name: 's', Re: a, Fill: text("b"), All: true, Print: true, Count: 3}, {Name: 'p', At: 11}}, false}, {"s/a/b/3pg}", false, []api.Cmd{{Name: 's', Re: a, Fill: text("b"), All: true, Print: true, Count: 3}, {Name: '}', At: 9}}, false},
		{"s/a/\\\n/", false, []api.Cmd{{Name: 's', Re: a, Fill: text("\n")}}, false}, {`s//\9/`, false, []api.Cmd{{Name: 's', Fill: []api.Piece{{Group: 9}}}}, false}, {"s/a/b/1048576", false, []api.Cmd{{Name: 's', Re: a, Fill: text("b"), Count: 1048576}}, false}, {"s a b ", false, []api.Cmd{{Name: 's', Re: a, Fill: text("b")}}, false}, {"sgagbgg", false, []api.Cmd{{Name: 's', Re: a, Fill: text("b"), All: true}}, false}, {"s/(a)/\\1/", true, []api.Cmd{{Name: 's', Re: []api.Node{{Op: api.OpGroup, N: 1, Kids: 1}, set('a')}, Fill: []api.Piece{{Group: 1}}}}, false},
		{"y///", false, []api.Cmd{{Name: 'y', Table: func() api.Table { x, _ := table.New(nil, nil); return x }()}}, false}, {"y,a\\,,\\nb,", false, []api.Cmd{{Name: 'y', Table: func() api.Table { x, _ := table.New([]byte("a,"), []byte("\nb")); return x }()}}, false},
		{"a\\\nx\np", false, []api.Cmd{{Name: 'a', Text: []byte("x")}, {Name: 'p', At: 5}}, false}, {"=;d;D;g;G;h;H;l;n;N;p;P;q;x", false, func() []api.Cmd {
			var l []api.Cmd
			for i, b := range []byte("=dDgGhHlnNpPqx") {
				l = append(l, api.Cmd{Name: b, At: 2 * i})
			}
			return l
		}(), false},
	} {
		got, quiet, e, at := Parse([]byte(c.in), c.ere)
		if !reflect.DeepEqual(clean(got), c.want) || quiet != c.quiet || e != api.OK || at != 0 {
			t.Errorf("%q: %v %v %d %d", c.in, got, quiet, e, at)
		}
		for _, x := range got {
			if !Shaped(x) {
				t.Errorf("%q: not well shaped", c.in)
			}
		}
	}
}

// P21.2
func TestFaults(t *testing.T) {
	long := strings.Repeat("n", 65)
	for in, c := range map[string]struct {
		err api.Errno
		at  int
	}{
		"1,p": {api.ErrAddr, 2}, "1,2q": {api.ErrAddr, 3}, "1": {api.ErrCmd, 1}, "!": {api.ErrCmd, 1}, "z": {api.ErrCmd, 0}, "1;": {api.ErrCmd, 1}, "pp": {api.ErrMore, 1}, "p x": {api.ErrMore, 2}, ":": {api.ErrLabel, 0}, "r": {api.ErrFile, 0}, "w a/b": {api.ErrFile, 0}, "atext": {api.ErrText, 0},
		"s": {api.ErrPart, 0}, "s/a/b": {api.ErrPart, 0}, "s/[/b/": {api.ErrBrack, 0}, "s/a/b/gg": {api.ErrFlag, 0}, "s/a/b/0": {api.ErrFlag, 0}, `s/a/\1/`: {api.ErrRef, 0}, "y/a/bc/": {api.ErrTable, 0}, "!}": {api.ErrAddr, 1}, "1:a": {api.ErrAddr, 1},
		"p;0p": {api.ErrAddr, 2}, "p;1,0p": {api.ErrAddr, 4}, "p;/a": {api.ErrPart, 2}, " /**/p": {api.OK, 0}, "/a**/p": {api.ErrRepeat, 0}, "1,/a**/p": {api.ErrRepeat, 2}, "1,": {api.ErrAddr, 2}, "1, p": {api.ErrAddr, 3}, ",p": {api.ErrCmd, 0}, "1,2,3p": {api.ErrCmd, 3}, "1\n": {api.ErrCmd, 1}, "1 #": {api.ErrCmd, 2}, "99999999999p": {api.ErrAddr, 0}, "1,2=": {api.ErrAddr, 3}, "1,2r f": {api.ErrAddr, 3}, "1}": {api.ErrAddr, 1}, "!:x": {api.ErrAddr, 1}, "1!}": {api.ErrAddr, 2}, "1,2a\\\nx": {api.ErrAddr, 3},
		": \t": {api.ErrLabel, 0}, "p;r \t": {api.ErrFile, 2}, "w": {api.ErrFile, 0}, "w a\x00": {api.ErrFile, 0}, "r " + long: {api.ErrFile, 0}, "r " + long[1:]: {api.OK, 0}, "i\\\n": {api.ErrText, 0}, "a\\\nx\\": {api.ErrText, 0}, "c": {api.ErrText, 0}, "a\\x\n": {api.ErrText, 0},
		"s/": {api.ErrPart, 0}, "s/a": {api.ErrPart, 0}, "s/a/": {api.ErrPart, 0}, "s/a\n/b/": {api.ErrPart, 0}, "s\na\nb\n": {api.ErrPart, 0}, `s\a\b\`: {api.ErrPart, 0}, "s/[/": {api.ErrBrack, 0}, "s/a\\\n/b/": {api.ErrPart, 0}, "p;s/**/b": {api.ErrPart, 2}, "s/a**/b": {api.ErrRepeat, 0}, `s/a/b\`: {api.ErrPart, 0}, "s/a/b/pp": {api.ErrFlag, 0}, "s/a/b/2g2": {api.ErrFlag, 0}, "s/a/b/1048577": {api.ErrFlag, 0}, "s/a/b/00": {api.ErrFlag, 0}, "s/a/b/x": {api.ErrMore, 6}, "s/a/b/ g": {api.ErrMore, 7}, "s/a/b/w": {api.ErrFile, 0}, "s/a/b/w a/b": {api.ErrFile, 0}, `s/a/\1/x`: {api.ErrMore, 7}, `s/a/\1/w /`: {api.ErrFile, 0}, `s/a/\1/gg`: {api.ErrFlag, 0}, `s/\(a\)/\2/`: {api.ErrRef, 0}, `s/a/\1/w f`: {api.ErrRef, 0}, "s/a**/\\": {api.ErrRepeat, 0},
		"y": {api.ErrPart, 0}, "y/a/b": {api.ErrPart, 0}, "y/a": {api.ErrPart, 0}, "y/aa/bc/": {api.ErrTable, 0}, `y/\a/bc/`: {api.ErrTable, 0}, "y/a/bc/x": {api.ErrTable, 0}, "y/a/b/x": {api.ErrMore, 6}, "y/a/b\n/": {api.ErrPart, 0}, "p p;q": {api.ErrMore, 2}, "{z": {api.ErrCmd, 1}, "}}x": {api.ErrMore, 2},
	} {
		l, quiet, e, at := Parse([]byte("#n\n"+in), false)
		if c.at+3 != at && c.err != api.OK || e != c.err || e != api.OK && (l != nil || quiet) {
			t.Errorf("%q: %d at %d, not %d at %d", in, e, at, c.err, c.at+3)
		}
	}
}

// P21.2: the faults of extended regexes.
func TestExtendedFaults(t *testing.T) {
	for _, c := range []struct {
		in  string
		err api.Errno
		at  int
	}{
		{`\;(;`, api.ErrParen, 0}, {"/(/p", api.ErrParen, 0}, {"p;1,/((/p", api.ErrParen, 4}, {"p;s/a|(/b/", api.ErrParen, 2}, {"p;s/(a|/b/", api.ErrEmpty, 2}, {"/a|/p", api.ErrEmpty, 0}, {"/a)/p", api.ErrParen, 0},
	} {
		if l, quiet, e, at := Parse([]byte(c.in), true); l != nil || quiet || e != c.err || at != c.at {
			t.Errorf("%q: %d at %d, not %d at %d", c.in, e, at, c.err, c.at)
		}
	}
}

// P21.1, P21.2: the limits.
func TestLimits(t *testing.T) {
	if _, _, e, at := Parse([]byte(strings.Repeat("p;", api.MaxCmds)+"#"+strings.Repeat("x", api.MaxScript)), false); e != api.ErrSpent || at != api.MaxScript {
		t.Errorf("%d at %d", e, at)
	}
	if l, _, e, _ := Parse([]byte("#"+strings.Repeat("x", api.MaxScript-1)), false); e != api.OK || l != nil {
		t.Error("MaxScript")
	}
	if l, _, e, _ := Parse([]byte(strings.Repeat("p;", api.MaxCmds)+"# pp"), false); e != api.OK || len(l) != api.MaxCmds {
		t.Error("MaxCmds")
	}
	for in, want := range map[string]api.Errno{"pp": api.ErrSpent, "z": api.ErrCmd, "1}": api.ErrAddr, "p": api.ErrSpent, "}": api.ErrSpent} {
		l, _, e, at := Parse([]byte(strings.Repeat("p;", api.MaxCmds)+in), false)
		if l != nil || e != want || at != 2*api.MaxCmds+len(in)/2 && in != "pp" || in == "pp" && at != 2*api.MaxCmds {
			t.Errorf("%s: %d at %d", in, e, at)
		}
	}
	if _, _, e, at := Parse([]byte("s/"+strings.Repeat("a", api.MaxRegex+1)+"/b/"), false); e != api.ErrSpent || at != 0 {
		t.Errorf("%d at %d", e, at)
	}
}

// P21.4
func TestMost(t *testing.T) {
	want := map[byte]int{}
	for n, names := range []string{"}:", "=aiqr", "{bcdDgGhHlnNpPstwxy"} {
		for _, b := range []byte(names) {
			want[b] = n
		}
	}
	for b := range 256 {
		n, ok := want[byte(b)]
		if !ok {
			n = -1
		}
		if Most(byte(b)) != n {
			t.Errorf("%d: %d", b, Most(byte(b)))
		}
	}
}

// P21.3
func TestShaped(t *testing.T) {
	re := []api.Node{{Op: api.OpGroup, N: 1, Kids: 1}, set('a')}
	b := func(s string) []byte { return []byte(s) }
	var x api.Table
	x[0] = 1
	for i, c := range []api.Cmd{
		{Name: 'p'}, {Name: 'p', A: line(1), B: line(1), Not: true, At: 9}, {Name: 'q', A: regexOf('a'), Not: true}, {Name: '}'}, {Name: ':', Text: b("x y")}, {Name: 'b'}, {Name: 't', Text: b(";#")}, {Name: 'a', Text: b("a\n\x00 ")}, {Name: 'i'}, {Name: 'r', Text: b("f ")}, {Name: 'w', Text: b(strings.Repeat("n", 64))}, {Name: 'y'}, {Name: 'y', Table: x}, {Name: 'p', A: api.Addr{Kind: api.AddrRegex}},
		{Name: 's'}, {Name: 's', Re: re, Fill: []api.Piece{{Group: 1}, {Group: -1, Text: b("x")}}, Count: api.MaxSpace, All: true, Print: true, Write: true, Text: b("f")}, {Name: 's', Fill: []api.Piece{{Group: 9}}}, {Name: 'c', A: line(2147483647), B: api.Addr{Kind: api.AddrLast}},
	} {
		if !Shaped(c) {
			t.Errorf("%d: %c", i, c.Name)
		}
	}
	for i, c := range []api.Cmd{
		{}, {Name: 'z'}, {Name: ';'}, {Name: 'q', A: line(1), B: line(2)}, {Name: 'p', B: line(2)}, {Name: '}', A: line(1)}, {Name: '}', Not: true}, {Name: ':', Text: b("x"), Not: true}, {Name: 'p', At: -1}, {Name: 'p', A: line(0)}, {Name: 'p', A: line(1), B: line(-1)}, {Name: 'p', A: api.Addr{Kind: 7}}, {Name: 'p', A: api.Addr{N: 1}}, {Name: 'p', A: line(1), B: api.Addr{N: 1}}, {Name: 'p', A: api.Addr{Kind: api.AddrRegex, Re: re[:1]}},
		{Name: ':'}, {Name: ':', Text: b(" x")}, {Name: ':', Text: b("x\t")}, {Name: 'b', Text: b("x\ny")}, {Name: 't', Text: b(" ")}, {Name: 'r'}, {Name: 'w', Text: b(" f")}, {Name: 'w', Text: b("\tf")}, {Name: 'r', Text: b("a/b")}, {Name: 'r', Text: b("a\nb")}, {Name: 'r', Text: b("a\x00")}, {Name: 'w', Text: b(strings.Repeat("n", 65))}, {Name: 'p', Text: b("x")}, {Name: '{', Text: b("x")}, {Name: 'y', Text: b("x")},
		{Name: 's', Text: b("f")}, {Name: 's', Write: true}, {Name: 's', Write: true, Text: b("/")}, {Name: 's', Re: re[:1]}, {Name: 's', Re: re, Fill: []api.Piece{{Group: 2}}}, {Name: 's', Fill: []api.Piece{{Group: 10}}}, {Name: 's', Fill: []api.Piece{{Group: -1}}}, {Name: 's', Count: -1}, {Name: 's', Count: api.MaxSpace + 1}, {Name: 's', Table: x},
		{Name: 'p', Re: re}, {Name: 'p', Fill: text("x")}, {Name: 'p', Count: 1}, {Name: 'p', All: true}, {Name: 'p', Print: true}, {Name: 'w', Text: b("f"), Write: true}, {Name: 'p', Table: x}, {Name: 'y', Re: re}, {Name: 'y', Count: 1},
	} {
		if Shaped(c) {
			t.Errorf("%d: %c", i, c.Name)
		}
	}
}

// What follows: the faults lie in the text; two scripts, one behind the other; what stands ahead of a command.
func TestFollows(t *testing.T) {
	r := rand.New(rand.NewSource(1))
	bits := []string{"p", "1", ",", "$", "/a/", "!", ";", "\n", " ", "{", "}", "s/a/b/", "g", "w f", "y/a/b/", "#", "a\\\nx", "b x", ":x", "\\", "2", "q", "//"}
	some := func() string {
		s := ""
		for range r.Intn(7) {
			s += bits[r.Intn(len(bits))]
		}
		return s
	}
	good := 0
	for range 60000 {
		a, b := some(), some()
		l, _, e, at := Parse([]byte(a), false)
		if at < 0 || at > len(a) || e != api.OK && l != nil {
			t.Fatalf("%q: %d at %d", a, e, at)
		}
		m, _, e2, at2 := Parse([]byte(b), false)
		// A text that ends in a backslash takes the line end that is put between.
		if e != api.OK || strings.HasSuffix(a, "\\") {
			continue
		}
		good++
		last := -1
		for _, c := range l {
			if !Shaped(c) || c.At <= last {
				t.Fatalf("%q: %v", a, c)
			}
			last = c.At
		}
		both, _, e3, at3 := Parse([]byte(a+"\n"+b), false)
		if e3 != e2 || e3 != api.OK && at3 != at2+len(a)+1 {
			t.Fatalf("%q, %q: %d at %d, %d at %d", a, b, e2, at2, e3, at3)
		}
		if e3 != api.OK {
			continue
		}
		for _, c := range m {
			c.At += len(a) + 1
			l = append(l, c)
		}
		if !reflect.DeepEqual(clean(l), clean(both)) {
			t.Fatalf("%q, %q", a, b)
		}
	}
	if good < 5000 {
		t.Error("too few")
	}
}

// P21.5
func TestMemory(t *testing.T) {
	in := append(make([]byte, 0, 40), "s/ab/cd/w f\na\\\nxy"...)
	l, _, _, _ := Parse(in, false)
	m, _, _, _ := Parse(in, false)
	l[0].Re[0].Op = 0
	l[0].Fill[0].Text[0] = '!'
	l[0].Text[0] = '!'
	l[1].Text = append(l[1].Text[:1], '!')
	if !syntax.Shaped(m[0].Re) || string(m[0].Fill[0].Text) != "cd" || string(m[0].Text) != "f" || string(m[1].Text) != "xy" || string(in) != "s/ab/cd/w f\na\\\nxy" {
		t.Error("shared")
	}
}
