package step

import (
	"reflect"
	"slices"
	"strconv"
	"strings"
	"testing"

	"galley/api"
	"galley/lines"
	"galley/parse"
	"galley/resolve"
)

// world: lines, and what it was told; the refuse-th call of Out or File is refused.
type world struct {
	in     *lines.Reader
	out    []string
	files  map[string]string
	refuse int
	calls  int
	short  bool // Next finds no line, though Last has denied it
}

func (w *world) Next() ([]byte, bool) {
	if w.short && w.in.Line() > 0 {
		return nil, false
	}
	return w.in.Next()
}
func (w *world) Last() bool { return w.in.Last() && !w.short }
func (w *world) Line() int  { return w.in.Line() }
func (w *world) told() api.Errno {
	w.calls++
	if w.calls == w.refuse {
		return api.ErrFull
	}
	return api.OK
}
func (w *world) Out(b []byte) api.Errno {
	w.out = append(w.out, string(b))
	for i := range b[:cap(b)] {
		b[:cap(b)][i] = '?'
	}
	return w.told()
}
func (w *world) File(name string, b []byte) api.Errno {
	w.files[name] += string(b)
	for i := range b[:cap(b)] {
		b[:cap(b)][i] = '?'
	}
	return w.told()
}
func (w *world) Read(name string) []byte { return []byte(w.files[name]) }

func worldOf(input string) *world {
	return &world{files: map[string]string{"in": "x\ny"}, in: lines.New([]string{"-"}, func(string) ([]byte, api.Errno) { return []byte(input), api.OK })}
}

func program(t *testing.T, quiet bool, script string) api.Program {
	t.Helper()
	l, q, e, at := parse.Parse([]byte(script), false)
	if e != api.OK {
		t.Fatalf("%q: %d at %d", script, e, at)
	}
	p, e, at := resolve.Resolve(l, q || quiet)
	if e != api.OK {
		t.Fatalf("%q: %d at %d", script, e, at)
	}
	return p
}

func machine(t *testing.T, p api.Program, w api.World) *Machine {
	t.Helper()
	m, e := New(p, w)
	if e != api.OK {
		t.Fatal(e)
	}
	return m
}

// run: step by step up to the end, or 10000 steps.
func run(m *Machine) api.Errno {
	for range 10000 {
		if e := m.Step(); e != api.OK || m.At() == AtEnd {
			return e
		}
	}
	return -1
}

// P26.2: what each command does.
func TestCommands(t *testing.T) {
	for _, c := range []struct {
		script, in, want string
		steps            int
	}{
		{"p", "a\nb\n", "a\na\nb\nb\n", 2}, {"$!N;P;D", "a\nb\nc", "a\nb\nc\n", 9}, {"N", "a\n", "", 1}, {"s/a/b/;tx\ns/b/c/\n:x", "a\nb\n", "b\nc\n", 5}, {"/b/s//x/", "b\n", "x\n", 1}, {"s//x/", "b\n", "b\n", 1}, {"a\\\nfoo\nn;i\\\nbar", "1\n2\n", "1\nfoo\nbar\n2\n", 3}, {"2,3c\\\nX", "1\n2\n3\n4\n", "1\nX\n4\n", 4}, {"2!c\\\nX", "1\n2\n", "X\n2\n", 2}, {"#n\nG;h;p", "a\nb\n", "a\n\nb\na\n\n", 6}, {"x;q", "a\nb\n", "\n", 2},
		{"", "a\nb", "a\nb\n", 0}, {"=", "a\nb\n", "1\na\n2\nb\n", 2}, {"#n\n$=", "a\nb\nc\n", "3\n", 3}, {"a\\\nx\na\\\ny", "1\n", "1\nx\ny\n", 2}, {"r in\na\\\nz", "1\n2\n", "1\nx\nyz\n2\nx\nyz\n", 4}, {"r none", "1\n", "1\n", 1}, {"b\np", "1\n", "1\n", 1}, {"bx\np\n:x\np", "1\n", "1\n1\n", 2}, {"2c\\\nX\n", "1\n2\n3\n", "1\nX\n3\n", 3}, {"c\\\nX\np", "1\n2\n", "X\nX\n", 2}, {"$!{c\\\nX\n}", "1\n2\n3\n", "X\nX\n3\n", 5}, {"2,3!c\\\nX", "1\n2\n3\n4\n", "X\n2\n3\nX\n", 4}, {"2,9c\\\nX", "1\n2\n3\n", "1\n", 3}, {"a\\\nx\nd", "1\n", "x\n", 2}, {"/1/d", "1\n2\n", "2\n", 2},
		{"D", "a\nb\n", "", 2}, {"N;D", "a\nb\nc\n", "", 5}, {"2{h;d\n};${G\n}", "a\nb\nc\n", "a\nc\nb\n", 8}, {"H;x", "a\nb\n", "\na\na\nb\n", 4}, {"x;G", "a\nb\n", "\na\na\nb\n", 4}, {"h;g", "a\n", "a\n", 2}, {"i\\\nx\\\ny", "1\n", "x\ny\n1\n", 1}, {"l", "a\tb\\\n", "a\\tb\\\\$\na\tb\\\n", 1}, {"#n\nl", strings.Repeat("x", 70) + "\n", strings.Repeat("x", 69) + "\\\nx$\n", 1},
		{"n;d", "1\n2\n3\n", "1\n3\n", 3}, {"#n\nn;p", "1\n2\n3\n", "2\n", 3}, {"n;n;s/./x/", "1\n2\n3\n4\n", "1\n2\nx\n4\n", 4}, {"a\\\nx\nN;p", "1\n2\n3\n", "x\n1\n2\n1\n2\nx\n", 5}, {"N;N;s/\\n/,/g", "1\n2\n3\n4\n", "1,2,3\n", 4}, {"$!N;s/\\n/-/", "1\n2\n3\n", "1-2\n3\n", 4}, {"P", "a\n", "a\na\n", 1}, {"N;P", "a\nb\n", "a\na\nb\n", 2}, {"2q", "a\nb\nc\n", "a\nb\n", 2}, {"a\\\nx\nq", "1\n2\n", "1\nx\n", 2}, {"#n\nq", "1\n", "", 1},
		{"s/a/b/p", "a\nc\n", "b\nb\nc\n", 2}, {"s/x*/-/g", "abc\n", "-a-b-c-\n", 1}, {"s/b/X/2", "abbb\n", "abXb\n", 1}, {"s/b/X/2g", "abbb\n", "abXX\n", 1}, {"y/ab/ba/", "abc\n", "bac\n", 1}, {":x\ns/^a/b/;tx\n", "a\n", "b\n", 4}, {"s/a/b/;n;tx\ns/$/!/;:x", "a\nc\n", "b\nc!\n", 4}, {"s/a/b/;N;tx\ns/$/!/;:x", "a\nc\n", "b\nc!\n", 4}, {"s/a/b/;s/c/d/;tx\ns/^/!/\n:x", "ac\nc\na\nx\n", "bd\nd\nb\n!x\n", 13}, {"t\ns/a/b/", "a\n", "b\n", 2}, {"/a/,/b/{\n//d\n}", "a\n1\nb\nc\n", "1\nc\n", 7}, {"/x/s/a/b/;s//c/", "aax\naay\n", "bcx\naay\n", 4}, {"/1/!{p\n}", "1\n2\n", "1\n2\n2\n", 3}, {"1{2{p\n}\n}", "1\n2\n", "1\n2\n", 3}, {"2,1p", "1\n2\n3\n", "1\n2\n2\n3\n", 3},
		{"/a/,/a/p", "a\nb\na\na\n", "a\na\nb\nb\na\na\na\na\n", 4}, {"s/\\(a\\)\\1/<&>/", "baac\n", "b<aa>c\n", 1}, {"$!{h;d\n};x;G", "a\nb\n", "a\nb\n", 6}, {"/^$/d", "a\n\nb\n", "a\nb\n", 3}, {"s/$/x/", "", "", 0}, {"{p;{p\n};p\n}", "a\n", "a\na\na\na\n", 5},
		{"1!G;h;$!d", "a\nb\nc", "c\nb\na\n", 9}, {"tx\nd\n:x", "a\n", "", 2}, {"s/a/b/;D;p", "a\n", "", 2}, {"$!N;s/^a/b/;t\nD", "a\na\nc\n", "b\na\n", 7},
	} {
		w := worldOf(c.in)
		m := machine(t, program(t, false, c.script), w)
		e := run(m)
		if got := strings.Join(w.out, ""); got != c.want || e != api.OK || m.Steps() != c.steps || m.At() != AtEnd {
			t.Errorf("%q of %q: %q, %d, %d steps", c.script, c.in, got, e, m.Steps())
		}
		before := len(w.out)
		if m.Step() != api.OK || m.At() != AtEnd || len(w.out) != before || m.Steps() != c.steps {
			t.Errorf("%q: a machine that has ended goes on", c.script)
		}
	}
}

// P26.2: the calls of Out and File, one by one.
func TestCalls(t *testing.T) {
	w := worldOf("ab\ncd\n")
	m := machine(t, program(t, false, "N;P;=\nw f\ns/a/x/w g\ni\\\nI\nl;p"), w)
	if e := run(m); e != api.OK || !slices.Equal(w.out, []string{"ab\n", "2\n", "I\n", "xb\\ncd$\n", "xb\ncd\n", "xb\ncd\n"}) || !reflect.DeepEqual(w.files, map[string]string{"in": "x\ny", "f": "ab\ncd\n", "g": "xb\ncd\n"}) {
		t.Errorf("%d %q %q", e, w.out, w.files)
	}
}

// P26.3: where the machine stands.
func TestAt(t *testing.T) {
	m := machine(t, program(t, false, "p"), worldOf("a\nb\n"))
	for i, want := range []int{-1, 0, 1, -1, 0, 1, -1, -2} {
		if m.At() != want {
			t.Errorf("%d: at %d", i, m.At())
		}
		m.Step()
	}
	m = machine(t, program(t, true, "2{:a\np;x\n}\ns/b/c/\n1,2h"), worldOf("a\nb\n"))
	type state struct {
		at            int
		pattern, hold string
		flag, open    bool
		steps         int
	}
	for i, want := range []state{{-1, "", "", false, false, 0}, {0, "a", "", false, false, 0}, {5, "a", "", false, false, 1}, {6, "a", "", false, false, 2}, {7, "a", "a", false, true, 3}, {-1, "a", "a", false, true, 3}, {0, "b", "a", false, true, 3}, {2, "b", "a", false, true, 4}, {3, "b", "a", false, true, 5}, {5, "a", "b", false, true, 6}, {6, "a", "b", false, true, 7}, {7, "a", "a", false, false, 8}, {-1, "a", "a", false, false, 8}, {-2, "a", "a", false, false, 8}} {
		got := state{m.At(), string(m.Pattern()), string(m.Hold()), m.Flag(), m.Open(6), m.Steps()}
		if got != want {
			t.Errorf("%d: %v, not %v", i, got, want)
		}
		m.Step()
	}
	m = machine(t, program(t, false, "s/a/b/;n;p"), worldOf("a\na\n"))
	for i, want := range []bool{false, false, true, false, false} {
		if m.Flag() != want {
			t.Errorf("%d: flag", i)
		}
		m.Step()
	}
	if m.Open(-1) || m.Open(99) {
		t.Error("Open")
	}
}

// P26.2: refusals.
func TestRefusals(t *testing.T) {
	for _, c := range []struct {
		script string
		refuse int
		out    []string
		files  string
		steps  int
	}{
		{"p;p", 1, []string{"a\n"}, "", 1}, {"p;p", 2, []string{"a\n", "a\n"}, "", 2}, {"p", 2, []string{"a\n", "a\n"}, "", 1}, {"w f\np", 1, nil, "a\n", 1}, {"s/a/b/pw f\np", 1, []string{"b\n"}, "", 1}, {"s/a/b/pw f\np", 2, []string{"b\n"}, "b\n", 1}, {"a\\\nx\na\\\ny", 2, []string{"a\n", "x\n"}, "", 2}, {"n;p", 1, []string{"a\n"}, "", 1}, {"a\\\nx\nN;p", 1, []string{"x\n"}, "", 2}, {"c\\\nX", 1, []string{"X\n"}, "", 1}, {"=", 1, []string{"1\n"}, "", 1}, {"l", 1, []string{"a$\n"}, "", 1}, {"i\\\nX", 1, []string{"X\n"}, "", 1},
	} {
		w := worldOf("a\nb\n")
		w.refuse = c.refuse
		m := machine(t, program(t, false, c.script), w)
		e := run(m)
		if e != api.ErrFull || !slices.Equal(w.out, c.out) || w.files["f"] != c.files || m.Steps() != c.steps || m.At() != AtEnd || m.Step() != api.ErrFull || w.calls != c.refuse {
			t.Errorf("%q: %d %q %q, %d steps", c.script, e, w.out, w.files, m.Steps())
		}
	}
	w := worldOf("a\nb\n")
	w.refuse = 1
	m := machine(t, program(t, false, "s/a/b/p"), w)
	run(m)
	if string(m.Pattern()) != "b" || !m.Flag() {
		t.Error("what was done ahead stays done")
	}
}

// P26.2: a space that would be too long.
func TestSpace(t *testing.T) {
	long := strings.Repeat("x", api.MaxSpace)
	for script, want := range map[string]struct {
		in    string
		steps int
		err   api.Errno
	}{"p": {long + "\n", 1, api.OK}, "P": {long + "x\n", 0, api.ErrSpace}, "h;G": {long[1:] + "\n", 2, api.ErrSpace}, "H": {long + "\n", 1, api.ErrSpace}, "N": {"a\n" + long[2:] + "\n", 1, api.OK}, "N;p": {"a\n" + long[1:] + "\n", 1, api.ErrSpace}, "n": {"a\n" + long + "x\n", 1, api.ErrSpace}, "s/^/y/": {long + "\n", 1, api.ErrSpace}, "s/x/yy/": {long[1:] + "\n", 1, api.OK}, "s/^x/yy/": {long + "\n", 1, api.ErrSpace}, "s/q/yy/": {long + "\n", 1, api.OK}} {
		w := worldOf(want.in)
		m := machine(t, program(t, true, script), w)
		if e := run(m); e != want.err || m.Steps() != want.steps || m.At() != AtEnd || m.Step() != want.err {
			t.Errorf("%s: %d, %d steps", script, e, m.Steps())
		}
	}
}

// P26.2: n and N where there is no line, though the world has denied that it was the last.
func TestShort(t *testing.T) {
	for script, want := range map[string]string{"a\\\nx\nn;p": "a\nx\n", "a\\\nx\nN;p": "x\n", "#n\nn": ""} {
		w := worldOf("a\nb\n")
		w.short = true
		m := machine(t, program(t, false, script), w)
		if e := run(m); e != api.OK || strings.Join(w.out, "") != want || string(m.Pattern()) != "a" {
			t.Errorf("%q: %d %q", script, e, w.out)
		}
	}
}

// P26.2: the empty regex is the one that was applied last, wherever it stands.
func TestEmptyRegex(t *testing.T) {
	for _, c := range []struct{ script, in, want string }{
		{"//p", "a\n", "a\n"}, {"//!p", "a\n", "a\na\n"}, {"2s/a/x/;//p", "a\na\na\n", "a\nx\na\na\n"}, {"/b/,/c/p;s//X/", "b\nc\nd\n", "b\nX\nc\nX\nd\n"}, {"s/z/y/;s//x/;s/a/b/;//p", "a\nza\n", "b\nyb\n"}, {"/a/!s/b/c/;s//X/", "ab\nb\n", "Xb\nc\n"}, {"1,//p", "a\nb\n", "a\na\nb\nb\n"}, {"s/\\(a\\)b/x/;s//\\1/", "abab\n", "xa\n"},
	} {
		w := worldOf(c.in)
		m := machine(t, program(t, false, c.script), w)
		if e := run(m); e != api.OK || strings.Join(w.out, "") != c.want {
			t.Errorf("%q of %q: %q", c.script, c.in, w.out)
		}
	}
}

// P26.1
func TestNew(t *testing.T) {
	p := program(t, false, "{p\n}")
	bad := p
	bad.To = []int{1, -1, -1}
	for _, q := range []api.Program{bad, {Cmds: p.Cmds}, {Cmds: []api.Cmd{{Name: 'z'}}, To: []int{-1}}, {Files: []string{"f"}}} {
		if m, e := New(q, worldOf("")); m != nil || e != api.ErrCmd {
			t.Error("no good program")
		}
	}
	m := machine(t, p, worldOf("a\n"))
	if m.At() != AtStart || m.Steps() != 0 || m.Flag() || len(m.Pattern()) != 0 || len(m.Hold()) != 0 {
		t.Error("a new machine")
	}
	w := worldOf("a\n")
	q := program(t, false, "s/a/b/")
	m = machine(t, q, w)
	q.Cmds[0].Re[0] = api.Node{Op: api.OpBegin}
	q.Cmds[0].Fill[0].Text[0] = '!'
	if run(m); strings.Join(w.out, "") != "b\n" {
		t.Error("the program is kept")
	}
	b := m.Pattern()
	b[0] = '!'
	if string(m.Pattern()) != "b" {
		t.Error("R5")
	}
}

// P26.3, P26.4
func TestNone(t *testing.T) {
	for _, m := range []*Machine{nil, {}} {
		if m.Step() != api.ErrArg || m.At() != AtEnd || m.Steps() != 0 || m.Pattern() != nil || m.Hold() != nil || m.Flag() || m.Open(0) {
			t.Error("none")
		}
	}
}

// What follows: a program without b, t and D ends within its commands times its lines.
func TestStraight(t *testing.T) {
	for _, script := range []string{"n;n;p", "N;N;p", "p;p;p", "$!N;P;x;G", "{p;q\n}"} {
		for n := range 6 {
			in := ""
			for i := range n {
				in += strconv.Itoa(i) + "\n"
			}
			p := program(t, false, script)
			m := machine(t, p, worldOf(in))
			if e := run(m); e != api.OK || m.Steps() > len(p.Cmds)*n {
				t.Errorf("%q: %d steps of %d lines", script, m.Steps(), n)
			}
		}
	}
}
