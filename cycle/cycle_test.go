package cycle

import (
	"bytes"
	"math/rand"
	"strings"
	"testing"

	"galley/api"
	"galley/lines"
	"galley/parse"
	"galley/resolve"
	"galley/step"
)

func program(t *testing.T, script string) api.Program {
	t.Helper()
	l, q, e, at := parse.Parse([]byte(script), false)
	if e != api.OK {
		t.Fatalf("%q: %d at %d", script, e, at)
	}
	p, e, at := resolve.Resolve(l, q)
	if e != api.OK {
		t.Fatalf("%q: %d at %d", script, e, at)
	}
	return p
}

// P27.1, P27.2
func TestPlain(t *testing.T) {
	long := strings.Repeat("x", 600000) + "\n"
	for _, c := range []struct {
		script, in string
		most       int
		want       string
		steps      int
		err        api.Errno
	}{
		{"p", "a\nb\n", 9, "a\na\nb\nb\n", 2, api.OK}, {"p", "a\nb\n", 2, "a\na\nb\nb\n", 2, api.OK}, {"p", "a\nb\n", 1, "a\na\n", 1, api.ErrSteps}, {"p", "a\nb\n", 0, "", 0, api.ErrSteps}, {"", "a\nb\n", 0, "a\nb\n", 0, api.OK}, {":x\nbx", "a\n", 5, "", 5, api.ErrSteps}, {"2q", "a\nb\nc\n", 9, "a\nb\n", 2, api.OK}, {"G;h;b", long + long, 99, long[:len(long)-1] + "\n\n", 4, api.ErrSpace}, {"p", "a\n", -1, "", 0, api.ErrArg}, {"p", "", 0, "", 0, api.OK},
		{"w f\nr f", "a", 9, "a\n", 2, api.OK}, {"p;p", "a\nb\n", 3, "a\na\na\nb\n", 3, api.ErrSteps}, {"a\\\nx", "1\n2\n", 1, "1\nx\n", 1, api.ErrSteps}, {"n", "1\n2\n", 1, "1\n2\n", 1, api.OK},
	} {
		got, steps, e := Plain(program(t, c.script), []byte(c.in), c.most)
		if string(got) != c.want || steps != c.steps || e != c.err {
			t.Errorf("%q, %d: %d bytes, %d, %d", c.script, c.most, len(got), steps, e)
		}
	}
	bad := api.Program{To: []int{1}}
	if got, steps, e := Plain(bad, []byte("a"), 9); got != nil || steps != 0 || e != api.ErrCmd {
		t.Errorf("%q %d %d", got, steps, e)
	}
	if got, steps, e := Plain(bad, []byte("a"), -1); got != nil || steps != 0 || e != api.ErrArg {
		t.Errorf("%q %d %d", got, steps, e)
	}
}

// told: a world that writes down all that it is told; the refuse-th call is refused.
type told struct {
	*lines.Reader
	calls  []string
	refuse int
}

func (w *told) tell(s string) api.Errno {
	w.calls = append(w.calls, s)
	if len(w.calls) == w.refuse {
		return 77
	}
	return api.OK
}
func (w *told) Out(b []byte) api.Errno               { return w.tell("out " + string(b)) }
func (w *told) File(name string, b []byte) api.Errno { return w.tell("file " + name + " " + string(b)) }
func (w *told) Read(name string) []byte {
	w.tell("read " + name)
	return []byte(name)
}

func worldOf(in string, refuse int) *told {
	return &told{lines.New([]string{"-"}, func(string) ([]byte, api.Errno) { return []byte(in), api.OK }), nil, refuse}
}

// P27.1, and what follows: the machine step by step; fewer steps, a beginning of the same.
func TestRun(t *testing.T) {
	r := rand.New(rand.NewSource(1))
	cmds := []string{"p", "n", "N", "$!N", "D", "P", "x", "G", "h", "s/a/b/", "s/b/a/w f", "t", "b", "2q", "d", "r g", "a\\\nx", "w f", "y/ab/ba/", "$!d", "1!G", ":x", "tx", "/a/bx", "{", "}", "="}
	n := 0
	for range 4000 {
		script := ""
		for range r.Intn(6) {
			script += cmds[r.Intn(len(cmds))] + "\n"
		}
		l, _, e, _ := parse.Parse([]byte(script), false)
		if e != api.OK {
			continue
		}
		p, e, _ := resolve.Resolve(l, r.Intn(4) == 0)
		if e != api.OK {
			continue
		}
		n++
		in := strings.Repeat("a\nb\nab\n\n", 2)[r.Intn(9):][:r.Intn(8)]
		refuse := r.Intn(20)
		w := worldOf(in, refuse)
		steps, e := Run(p, w, 60)
		m, _ := step.New(p, worldOf(in, refuse))
		machine := worldOf(in, refuse)
		m, _ = step.New(p, machine)
		var want api.Errno
		for m.At() != step.AtEnd && want == api.OK {
			if at := m.At(); at >= 0 && at < len(p.Cmds) && m.Steps() == 60 {
				want = api.ErrSteps
				break
			}
			want = m.Step()
		}
		if e != want || steps != m.Steps() || strings.Join(w.calls, "|") != strings.Join(machine.calls, "|") {
			t.Fatalf("%q of %q: %d, %d steps, %q", script, in, e, steps, w.calls)
		}
		if resolve.Straight(p) && (e == api.ErrSteps || steps > len(p.Cmds)*(strings.Count(in, "\n")+2)) {
			t.Fatalf("W5: %q of %q: %d steps", script, in, steps)
		}
		k := r.Intn(70)
		short := worldOf(in, refuse)
		steps2, e2 := Run(p, short, k)
		if k >= steps && e != api.ErrSteps && (steps2 != steps || e2 != e) || k < steps && (steps2 != k || e2 != api.ErrSteps) || len(short.calls) > len(w.calls) && k < 60 || k < 60 && strings.Join(short.calls, "|") != strings.Join(w.calls[:len(short.calls)], "|") {
			t.Fatalf("%q of %q, %d: %d, %d steps", script, in, k, e2, steps2)
		}
		if refuse == 0 && !strings.Contains(script, "r g") {
			var out []byte
			for _, c := range w.calls {
				if s, ok := strings.CutPrefix(c, "out "); ok {
					out = append(out, s...)
				}
			}
			if got, steps3, e3 := Plain(p, []byte(in), 60); !bytes.Equal(got, out) || steps3 != steps || e3 != e {
				t.Fatalf("%q of %q: Plain: %q", script, in, got)
			}
		}
	}
	if n < 1000 {
		t.Error("too few")
	}
	if steps, e := Run(program(t, "p"), worldOf("a\n", 0), -1); steps != 0 || e != api.ErrArg {
		t.Error("ErrArg")
	}
	if steps, e := Run(api.Program{Files: []string{"x"}}, worldOf("a\n", 0), 1); steps != 0 || e != api.ErrCmd {
		t.Error("ErrCmd")
	}
}

// P27.3
func TestMemory(t *testing.T) {
	in := []byte("ab\n")
	got, _, _ := Plain(program(t, "p"), in, 9)
	got[0] = '!'
	if again, _, _ := Plain(program(t, "p"), in, 9); string(in) != "ab\n" || string(again) != "ab\nab\n" {
		t.Error("shared")
	}
}
