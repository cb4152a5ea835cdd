package play

import (
	"slices"
	"strings"
	"testing"

	"galley/api"
	"galley/quote"
)

// The ten examples of the whole: what goes in, and what it tells.
var examples = [][2]string{
	{`stdin "one\ntwo\nthree\n"
run -n 2p
run $d
`,
		`out "two\n"
status 0 steps 3
out "one\ntwo\n"
status 0 steps 3
`},
	{`stdin "abcd\n"
run -E "s/(a|ab)(c|bcd)(d*)/[\\1][\\2][\\3]/"
`,
		`out "[ab][c][d]\n"
status 0 steps 1
`},
	{`stdin "baaac\n"
run s/a*/x/g
run s/a*/x/2
`,
		`out "xbxcx\n"
status 0 steps 1
out "bxc\n"
status 0 steps 1
`},
	{`stdin "a\nb\nc"
run 1!G;h;$!d
`,
		`out "c\nb\na\n"
status 0 steps 9
`},
	{`stdin "a\nb\nc\n"
run "$!N;s/\\n/-/;P;D"
`,
		`out "a-b\nc\n"
status 0 steps 8
`},
	{`stdin "1\n2\n3\n4\n"
run "2,/4/c\\\nx"
run "2!i\\\ny"
`,
		`out "1\nx\n"
status 0 steps 4
out "y\n1\n2\ny\n3\ny\n4\n"
status 0 steps 4
`},
	{`stdin "aabbc\n"
run "s/\\(.\\)\\1/<&>/g"
`,
		`out "<aa><bb>c\n"
status 0 steps 1
`},
	{`disk 1000 in "x\ny\n"
run -n "/x/w out" in
cat out
run "1r out" in
`,
		`status 0 steps 2
"x\n"
out "x\nx\ny\n"
status 0 steps 2
`},
	{`disk 1000 in "x\n"
run pp
run
run -i p
run p nix in
`,
		`galley: more than a command at 1
status 1 steps 0
galley: bad use
status 1 steps 0
galley: bad use
status 1 steps 0
out "x\nx\n"
galley: no such file: "nix"
status 2 steps 1
`},
	{`disk 1000 a "x\n" b "x\n"
fault 9 down
run -i s/x/y/ a b
start 1 99 99 99
names
recover
names
cat a
cat b
`,
		`galley: the power is gone: "b"
status 4 steps 2
names ".galley-b" "a" "b"
names "a" "b"
"y\n"
"x\n"
`},
}

// W1, W2, W4: the ten examples of the whole.
func TestExamples(t *testing.T) {
	for i, x := range examples {
		if got := Run(x[0]); got != x[1] {
			t.Errorf("example %d:\n%snot\n%s", i+1, got, x[1])
		}
	}
}

// P32.1
func TestDo(t *testing.T) {
	p := New()
	for i, c := range []struct{ line, want string }{
		{"run p", "status 0 steps 0"}, {`stdin "a\n"`, ""}, {"run p", "out \"a\\na\\n\"|status 0 steps 1"}, {"power", "on 0 0"}, {"names", "names"}, {"files", ""},
		{`disk 100 f "x\n"`, ""}, {"run -i s/x/y/ f", "status 0 steps 1"}, {"cat f", `"y\n"`}, {"power", "on 5 0"},
		{`disk 100 f "x\n"`, ""}, {"fault 5 down", ""}, {"run -i s/x/y/ f", `galley: the power is gone: "f"|status 4 steps 1`}, {"power", "off 4 2"}, {"names", "names"}, {"cat f", "error 24"}, {"recover", "error 24"}, {"start 0", ""}, {"names", `names "f"`}, {"cat f", `"x\n"`},
		{`disk 100 f "x\n"`, ""}, {"fault 5 down", ""}, {"run -i s/x/y/ f", `galley: the power is gone: "f"|status 4 steps 1`}, {"start 2", ""}, {"cat f", `"y\n"`},
		{`disk 100 f "x\n"`, ""}, {"fault 4 down", ""}, {"run -i s/x/y/ f", `galley: the power is gone: "f"|status 4 steps 1`}, {"start 1 9 9", ""}, {"names", `names ".galley-f" "f"`}, {"recover", ""}, {"names", `names "f"`}, {"recover", ""},
		{"cat nix", "error 21"}, {`cat ""`, "error 20"}, {`cat "f"`, `"x\n"`}, {"bad f", ""}, {"files", `"f" "x\n" 2 bad`}, {"cat f", "error 23"}, {"good f", ""}, {"cat f", `"x\n"`}, {"bad nix", "error 21"}, {`good "a/b"`, "error 20"},
		{"disk 3 f abcd", "error 22"}, {"names", `names "f"`}, {"disk 9 f a f b", "error 1"}, {"disk 99999999", "error 1"}, {"disk 0", ""}, {"names", "names"}, {`disk 20 "b c" "x\xff" a ""`, ""}, {"files", `"a" "" 0|"b c" "x\xff" 2`}, {"fault 1 io 1 io", "error 1"}, {"fault 0 io", "error 1"}, {"fault 2 full 3 io", ""}, {`run "w f" a`, `status 0 steps 0`}, {`run "p;w f" "b c"`, `galley: no room: "f"|status 4 steps 0`}, {"fault", ""}, {`run "p;w f" "b c"`, `out "x\xff\nx\xff\n"|status 0 steps 2`},
		{"off", ""}, {"off", ""}, {"start -1 -0 -5 7", ""}, {"power", "on 3 0"}, {"start 0", ""}, {"steps 1", ""}, {`run p;p "b c"`, `out "x\xff\n"|galley: steps are gone|status 3 steps 1`}, {"steps 0", ""}, {`run "" "b c"`, `out "x\xff\n"|status 0 steps 0`}, {"steps 2147483647", ""}, {"run", "galley: bad use|status 1 steps 0"}, {"run pp", "galley: more than a command at 1|status 1 steps 0"}, {"   ", ""}, {"", ""}, {"  names  ", `names "a" "b c"`},
	} {
		if got := strings.Join(p.Do(c.line), "|"); got != c.want {
			t.Errorf("%d: %s: %s, not %s", i, c.line, got, c.want)
		}
	}
}

// P32.1: what is no line, or whose words do not fit.
func TestMisfits(t *testing.T) {
	p := New()
	p.Do(`disk 100 f "x\n" g y`)
	p.Do("steps 7")
	p.Do(`stdin "s\n"`)
	before := state(p)
	for _, line := range []string{
		"nix", `run "`, "steps -1", "fault 1", `"run" p`, "Run p", "disk", "disk x", "disk 9 f", "disk -1", "disk 09", `disk "9"`, "disk 2147483648", "stdin", "stdin a b", "steps", "steps 1 2", "steps 01", "steps 1x", `steps "1"`, "steps 2147483648", "steps 99999999999999999999", "steps -0",
		"fault 1 io 2", "fault io 1", "fault 1 no", `fault 1 "io"`, "fault -1 io", "fault 1 IO", "fault 1 down down", "bad", "bad f g", "good", "off x", "start", "start x", "start 1 x", "start --1", "start -", "start -01", `start "1"`, "start 1 -2147483648", "recover x", "names x", "cat", "cat f g", "files x", "power x",
		`run "a"b`, `run a"b"`, `run "\q"`, `run "\x61"`, "run \"a\n\"", "run\tp", "run \x7f", "run é", "run \xff", "run \"\xff\"", `run "a`, "names\n", "\n", " \t", strings.Repeat(" ", api.MaxScript+1), "names" + strings.Repeat(" ", api.MaxScript), "start +1", "steps 1.0", `run """`, `cat "f""g"`,
	} {
		if got := p.Do(line); !slices.Equal(got, []string{"error 100"}) || state(p) != before {
			t.Errorf("%.40q: %q", line, got)
		}
	}
	for _, line := range []string{strings.Repeat(" ", api.MaxScript), "names" + strings.Repeat(" ", api.MaxScript-5), "start -2147483647 -2147483647", "steps 0"} {
		if got := p.Do(line); slices.Equal(got, []string{"error 100"}) {
			t.Errorf("%.40q: %q", line, got)
		}
	}
}

// state: what can be seen of a play.
func state(p *Play) string {
	return strings.Join(slices.Concat(p.Do("files"), p.Do("power"), p.Do("run -n $= -"), p.Do(`run ":x
bx"`), p.Do(`run ":x;bx"`)), "|")
}

// P32.1: each word says what it says.
func TestWords(t *testing.T) {
	for _, s := range []string{"", " ", "a b", "\n", "\x00\xff", "é\"\\", "\u0085", "-n", "#!~"} {
		p := New()
		p.Do("stdin " + quote.Show([]byte(s+"\n")))
		want := []string{"out " + quote.Show([]byte(s+"\n")), "status 0 steps 1"}
		if got := p.Do("run -n p"); !strings.Contains(s, "\n") && !slices.Equal(got, want) {
			t.Errorf("%q: %q", s, got)
		}
	}
	p := New()
	if got := p.Do(`disk 9 !#$%&'()*+,-.:;<=>?@[\]^_` + "`" + `{|}~ a`); got != nil || p.Do("names")[0] != `names "!#$%&'()*+,-.:;<=>?@[\\]^_`+"`"+`{|}~"` {
		t.Errorf("%q %q", got, p.Do("names"))
	}
}

// P32.2, and what follows: texts and their lines.
func TestRun(t *testing.T) {
	first := "disk 99 a \"x\\n\"\n\n  \nnix\nrun p a\n"
	second := "names\nfault 1 down\nrun -i d a\nstart 0\ncat a"
	p := New()
	var want string
	for _, line := range strings.Split(first+second, "\n") {
		for _, told := range p.Do(line) {
			want += told + "\n"
		}
	}
	got := Run(first + second)
	if got != want || Run(first+second+"\n") != want || !strings.HasPrefix(got, Run(first)) || Run("") != "" || Run("\n\n") != "" || Run("names") != "names\n" {
		t.Errorf("%q, not %q", got, want)
	}
	a, b := New(), New()
	a.Do("disk 9 x y")
	if got := b.Do("names"); got[0] != "names" {
		t.Error("two plays know of each other")
	}
}

// P32.3
func TestNone(t *testing.T) {
	for _, p := range []*Play{nil, {}} {
		if p.Do("names") != nil || p.Do("nix") != nil {
			t.Error("none")
		}
	}
}
