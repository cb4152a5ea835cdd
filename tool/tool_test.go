package tool

import (
	"fmt"
	"reflect"
	"slices"
	"strings"
	"testing"

	"galley/api"
	"galley/disk"
	"galley/temps"
)

func file(name, bytes string) api.File {
	return api.File{Name: name, Bytes: []byte(bytes), Synced: len(bytes)}
}

// made: a disk with a, b and others.
func made(t *testing.T, more ...api.File) *disk.Disk {
	t.Helper()
	d, e := disk.From(9999, append([]api.File{file("a", "x\ny\n"), file("b", "z")}, more...))
	if e != api.OK {
		t.Fatal(e)
	}
	return d
}

// shown: the files of a disk but for b, each with its bytes.
func shown(d *disk.Disk) string {
	s := ""
	for _, f := range d.Files() {
		if f.Name != "b" || string(f.Bytes) != "z" {
			s += f.Name + "=" + string(f.Bytes) + " "
		}
	}
	return s
}

func note(e api.Errno, at int, name string) api.Note { return api.Note{Err: e, At: at, Name: name} }

// words: a blank parts two; an underscore stands for a blank.
func words(s string) []string {
	l := strings.Fields(s)
	for i := range l {
		l[i] = strings.ReplaceAll(l[i], "_", " ")
	}
	return l
}

// P31.1, P31.3, P31.4
func TestRun(t *testing.T) {
	for _, c := range []struct {
		args   string
		out    string
		status int
		steps  int
		notes  []api.Note
	}{
		{"p a b", "x\nx\ny\ny\nz\nz\n", 0, 3, nil}, {"-n $p a - b", "z\n", 0, 4, nil}, {"-ns $p a b", "y\nz\n", 0, 3, nil}, {"$!d", "s\n", 0, 1, nil}, {"p a nix b", "x\nx\ny\ny\nz\nz\n", 2, 3, []api.Note{note(api.ErrGone, -1, "nix")}}, {"", "", 1, 0, []api.Note{note(api.ErrUse, -1, "")}}, {"p;_q_q", "", 1, 0, []api.Note{note(api.ErrMore, 5, "")}}, {`-E \;(; b`, "", 1, 0, []api.Note{note(api.ErrParen, 0, "")}}, {"-E p;s/(/x/ b", "", 1, 0, []api.Note{note(api.ErrParen, 2, "")}}, {"-i p", "", 1, 0, []api.Note{note(api.ErrUse, -1, "")}}, {"-i p -", "", 1, 0, []api.Note{note(api.ErrUse, -1, "-")}}, {"-i w_a a", "", 1, 0, []api.Note{note(api.ErrFile, -1, "a")}},
		{"-z p", "", 1, 0, []api.Note{note(api.ErrOpt, -1, "z")}}, {"-ne", "", 1, 0, []api.Note{note(api.ErrUse, -1, "e")}}, {"-f nix", "", 1, 0, []api.Note{note(api.ErrGone, -1, "nix")}}, {"-f script a", "1\nx\n2\ny\n", 0, 2, nil}, {"-f script -e p a", "1\nx\nx\n2\ny\ny\n", 0, 4, nil}, {"-f text -e d b", "new\n", 0, 2, nil}, {"-e i\\ -e X b", "X\nz\n", 0, 1, nil}, {"-f quiet b", "z\n", 0, 1, nil}, {"-E s/(z|y)/<\\1>/ b", "<z>\n", 0, 1, nil}, {"s/(z|y)/<&>/ b", "z\n", 0, 1, nil}, {"bx b", "", 1, 0, []api.Note{note(api.ErrLabel, 0, "")}}, {"p;{ b", "", 1, 0, []api.Note{note(api.ErrBlock, 2, "")}}, {"w_.galley-x b", "", 1, 0, []api.Note{note(api.ErrFile, 0, "")}}, {"-i p a .galley-a b", "", 1, 0, []api.Note{note(api.ErrFile, -1, ".galley-a")}}, {"-i p a a/b", "", 1, 0, []api.Note{note(api.ErrFile, -1, "a/b")}}, {"-i p nix -", "", 1, 0, []api.Note{note(api.ErrUse, -1, "-")}},
		{"p - -", "s\ns\n", 0, 1, nil}, {"-s = - - b", "1\ns\n1\nz\n", 0, 2, nil}, {"-n = a b", "1\n2\n3\n", 0, 3, nil}, {"-sn = a b", "1\n2\n1\n", 0, 3, nil}, {"-s p nix b no", "z\nz\n", 2, 1, []api.Note{note(api.ErrGone, -1, "nix"), note(api.ErrGone, -1, "no")}}, {"p bad b", "z\nz\n", 2, 1, []api.Note{note(api.ErrIO, -1, "bad")}}, {"p nix", "", 2, 0, []api.Note{note(api.ErrGone, -1, "nix")}}, {"p a/b b", "z\nz\n", 2, 1, []api.Note{note(api.ErrName, -1, "a/b")}}, {"-s h;G a b", "x\nx\ny\ny\nz\nz\n", 0, 6, nil}, {"-s 1,/q/d a b", "", 0, 3, nil}, {"-s q a b", "x\nz\n", 0, 2, nil}, {"q a nix", "x\n", 0, 1, nil}, {"2q a nix", "x\ny\n", 2, 2, []api.Note{note(api.ErrGone, -1, "nix")}}, {"r_a b", "z\nx\ny\n", 0, 1, nil}, {"r_nix b", "z\n", 0, 1, nil}, {"-f bad b", "", 1, 0, []api.Note{note(api.ErrIO, -1, "bad")}},
	} {
		d := made(t, file("script", "=\n"), file("text", "a\\\nnew\n\n"), file("quiet", "#n\np"), api.File{Name: "bad", Bad: true})
		r := Run(d, words(c.args), []byte("s\n"), 1000)
		if string(r.Out) != c.out || r.Status != c.status || r.Steps != c.steps || !slices.Equal(r.Notes, c.notes) || d.Done() != 0 {
			t.Errorf("%s: %q, %v, status %d, steps %d", c.args, r.Out, r.Notes, r.Status, r.Steps)
		}
	}
}

// P31.2, P31.4: files of w.
func TestFiles(t *testing.T) {
	d := made(t, file("out", "old"))
	if r := Run(d, words("w_out a b"), nil, 9); r.Status != 0 || string(r.Out) != "x\ny\nz\n" || shown(d) != "a=x\ny\n out=x\ny\nz\n " {
		t.Errorf("%v %s", r, shown(d))
	}
	if r := Run(d, words("$r_out b"), nil, 9); string(r.Out) != "z\nx\ny\nz\n" {
		t.Errorf("%q", r.Out)
	}
	d = made(t)
	if r := Run(d, []string{"-ns", "s/./&&/w f\nw g\nr f", "b", "nix", "a"}, nil, 99); r.Status != 2 || string(r.Out) != "zz\nzz\nxx\nzz\nxx\nyy\n" || shown(d) != "a=x\ny\n f=zz\nxx\nyy\n g=zz\nxx\nyy\n " {
		t.Errorf("%q %s", r.Out, shown(d))
	}
	// They are made ahead of the run, in the program's order, whether something is written or not.
	d = made(t)
	d.Plan(api.Fault{N: 2, Err: api.ErrFull})
	if r := Run(d, []string{"w f\nw g\nw h", "a"}, nil, 99); r.Status != 4 || r.Out != nil || r.Steps != 0 || !slices.Equal(r.Notes, []api.Note{note(api.ErrFull, -1, "g")}) || shown(d) != "a=x\ny\n f= " {
		t.Errorf("%v %s", r, shown(d))
	}
	d = made(t)
	d.Plan(api.Fault{N: 3, Err: api.ErrIO})
	if r := Run(d, []string{"p;w f", "nix", "a"}, nil, 99); r.Status != 4 || string(r.Out) != "x\nx\ny\n" || r.Steps != 4 || !slices.Equal(r.Notes, []api.Note{note(api.ErrGone, -1, "nix"), note(api.ErrIO, -1, "f")}) || shown(d) != "a=x\ny\n f=x\n " {
		t.Errorf("%q %v %s", r.Out, r, shown(d))
	}
	d.Off()
	if r := Run(d, []string{"p;w f", "a"}, nil, 99); r.Status != 4 || !slices.Equal(r.Notes, []api.Note{note(api.ErrDown, -1, "f")}) {
		t.Errorf("%v", r)
	}
}

// P31.5
func TestInPlace(t *testing.T) {
	d := made(t)
	if r := Run(d, words("-i s/x/X/ a b"), nil, 1000); !reflect.DeepEqual(r, api.Report{Steps: 3}) || shown(d) != "a=X\ny\n b=z\n " || d.Done() != 10 || d.Pending() != 0 {
		t.Errorf("%v %s", r, shown(d))
	}
	d = made(t)
	if r := Run(d, words("-i s/x/X/ a b"), nil, 2); !reflect.DeepEqual(r, api.Report{Steps: 2, Status: 3, Notes: []api.Note{note(api.ErrSteps, -1, "b")}}) || shown(d) != "a=X\ny\n " {
		t.Errorf("%v %s", r, shown(d))
	}
	d = made(t, api.File{Name: "bad", Bad: true})
	if r := Run(d, []string{"-in", "$p;w f\nr b", "nix", "b", "bad", "a"}, nil, 99); r.Status != 2 || r.Out != nil || !slices.Equal(r.Notes, []api.Note{note(api.ErrGone, -1, "nix"), note(api.ErrIO, -1, "bad")}) || shown(d) != "a=z\nzy\nz\nz b=z\nz bad= f=z\nx\ny\n " {
		t.Errorf("%v %s", r, shown(d))
	}
	d = made(t)
	if r := Run(d, words("-i p a a"), nil, 99); r.Status != 0 || r.Steps != 6 || shown(d) != "a="+strings.Repeat("x\n", 4)+strings.Repeat("y\n", 4)+" " {
		t.Errorf("%v %s", r, shown(d))
	}
	d = made(t)
	if r := Run(d, words("-i d a"), []byte("s"), 99); r.Status != 0 || shown(d) != "a= " {
		t.Errorf("%v %s", r, shown(d))
	}
}

// P31.6
func TestEnd(t *testing.T) {
	d := made(t)
	if r := Run(d, []string{":x\nbx", "nix", "a"}, nil, 5); !reflect.DeepEqual(r, api.Report{Steps: 5, Status: 3, Notes: []api.Note{note(api.ErrGone, -1, "nix"), note(api.ErrSteps, -1, "")}}) {
		t.Errorf("%v", r)
	}
	if r := Run(d, words("-s p a b"), nil, 2); string(r.Out) != "x\nx\ny\ny\n" || r.Status != 3 || r.Steps != 2 || !slices.Equal(r.Notes, []api.Note{note(api.ErrSteps, -1, "")}) {
		t.Errorf("%v", r)
	}
	if r := Run(d, words("p a"), nil, 0); r.Status != 3 || r.Steps != 0 || r.Out != nil {
		t.Errorf("%v", r)
	}
	if r := Run(d, []string{"", "a"}, nil, 0); r.Status != 0 || string(r.Out) != "x\ny\n" {
		t.Errorf("%v", r)
	}
	long := strings.Repeat("x", api.MaxSpace)
	if r := Run(d, words("p"), []byte("a\n"+long+"x\nb\n"), 99); string(r.Out) != "a\na\n" || r.Status != 3 || !slices.Equal(r.Notes, []api.Note{note(api.ErrSpace, -1, "")}) {
		t.Errorf("%v", r)
	}
	big, _ := disk.From(api.MaxRoom, []api.File{file("a", "x"), file("b", long+"x"), file("c", "x")})
	if r := Run(big, words("-i p a b c"), nil, 99); r.Status != 3 || !slices.Equal(r.Notes, []api.Note{note(api.ErrSpace, -1, "b")}) || len(big.Names()) != 3 {
		t.Errorf("%v", r.Notes)
	}
	if a, _ := big.Read("a"); string(a) != "x\nx\n" {
		t.Errorf("%q", a)
	}
}

// P31.6, W4: whatever call is refused, in place.
func TestFaults(t *testing.T) {
	for _, fault := range []api.Errno{api.ErrIO, api.ErrFull} {
		for n := 1; n <= 12; n++ {
			d := made(t)
			d.Plan(api.Fault{N: n, Err: fault})
			r := Run(d, []string{"-i", "s/^/+/\nw f", "nix", "a", "b"}, nil, 99)
			got := shown(d)
			// 1 makes f; 2 to 8 edit a: make, two appends to f, the append, sync, rename, the folder's sync; 9 on edit b.
			names := []string{"f", "a", "f", "f", "a", "a", "a", "a", "b", "f", "b", "b"}
			want := []api.Note{note(api.ErrGone, -1, "nix"), note(fault, -1, names[n-1])}
			if n == 1 {
				want = want[1:]
			}
			if r.Status != 4 || !slices.Equal(r.Notes, want) || len(temps.Stale(d)) != 0 {
				t.Errorf("%d: %v %s", n, r, got)
			}
			if a, _ := d.Read("a"); string(a) != map[bool]string{true: "+x\n+y\n", false: "x\ny\n"}[n >= 8] {
				t.Errorf("%d: %s", n, got)
			}
			if b, _ := d.Read("b"); string(b) != "z" {
				t.Errorf("%d: %s", n, got)
			}
		}
	}
}

// W2: wherever the power goes, in the run and in recoveries behind it, whatever is left.
func TestCrashes(t *testing.T) {
	names := []string{"a", "b", "c"}
	old := []string{"x\ny\n", "z", strings.Repeat("long line\n", 20)}
	for at := 1; at <= 22; at++ {
		for dir := range 5 {
			for _, keep := range []int{0, 3, 999} {
				for again := range 3 {
					d := made(t, file("c", old[2]))
					d.Plan(api.Fault{N: at, Err: api.ErrDown})
					r := Run(d, []string{"-i", "s/^/+/\n$w f", "a", "b", "c"}, nil, 999)
					d.Off()
					d.Start(dir, keep, keep, keep, keep, keep)
					if again > 0 {
						d.Plan(api.Fault{N: again, Err: api.ErrDown})
					}
					if temps.Clean(d) != api.OK {
						d.Start(dir-1, keep)
						d.Plan()
						temps.Clean(d)
					}
					k := 0
					for ; k < 3; k++ {
						if b, _ := d.Read(names[k]); string(b) == old[k] {
							break
						} else if string(b) != "+"+strings.TrimSuffix(strings.ReplaceAll(strings.TrimSuffix(old[k], "\n")+"\n", "\n", "\n+"), "+") {
							t.Fatalf("%d %d %d: %s is %q", at, dir, keep, names[k], b)
						}
					}
					for i := k; i < 3; i++ {
						if b, e := d.Read(names[i]); e != api.OK || string(b) != old[i] {
							t.Fatalf("%d %d %d: %s is %q behind an old one", at, dir, keep, names[i], b)
						}
					}
					if r.Status == 0 && k != 3 || len(temps.Stale(d)) > 0 || r.Status != 0 && r.Status != 4 {
						t.Fatalf("%d %d %d: status %d, %d are new", at, dir, keep, r.Status, k)
					}
				}
			}
		}
	}
}

// R3, R5, and what follows: the same again.
func TestNone(t *testing.T) {
	for _, d := range []*disk.Disk{nil, {}} {
		if r := Run(d, []string{"p"}, []byte("a"), 9); !reflect.DeepEqual(r, api.Report{Status: 1}) {
			t.Errorf("%v", r)
		}
	}
	if r := Run(made(t), []string{"p"}, []byte("a"), -1); !reflect.DeepEqual(r, api.Report{Status: 1}) {
		t.Errorf("%v", r)
	}
	in := []byte("ab\n")
	args := []string{"-e", "p", "-", "a"}
	first := Run(made(t), args, in, 99)
	first.Out[0] = '!'
	if again := Run(made(t), args, in, 99); string(in) != "ab\n" || string(again.Out) != "ab\nab\nx\nx\ny\ny\n" || fmt.Sprint(args) != "[-e p - a]" {
		t.Errorf("%q", again.Out)
	}
	// W8: with -s the output is that of each file's run by itself.
	for _, script := range []string{"p", "$d", "1!G;h", "2,/x/s/$/./", "N;P;D", "$!{n\n}"} {
		var apart []byte
		for _, name := range []string{"a", "b", "a"} {
			apart = append(apart, Run(made(t), []string{script, name}, nil, 99).Out...)
		}
		if r := Run(made(t), []string{"-s", script, "a", "b", "a"}, nil, 99); string(r.Out) != string(apart) {
			t.Errorf("%q: %q, not %q", script, r.Out, apart)
		}
	}
}
