// Package whole has the tests of the promises of the whole; it has no code of its own.
package whole

import (
	"maps"
	"math/rand"
	"slices"
	"strings"
	"testing"

	"galley/api"
	"galley/disk"
	"galley/parse"
	"galley/resolve"
	"galley/temps"
	"galley/tool"
)

// someScript: often one that can be read.
func someScript(r *rand.Rand) string {
	heads := []string{"", "", "", "1", "2", "$", "/a/", "/b$/", "1,3", "2,/b/", "/a/,/c/", "/a/,3", "//", "3,1", "$!"}
	bodies := []string{"p", "n", "N", "$!N", "D", "P", "x", "G", "h", "H", "g", "s/a/b/", "s/b/<&>/gw f", "s/a*/x/g", "s/b*/-/2", "s/\\(a\\)\\(.\\)/\\2\\1/", "s/\\(.\\)\\1/=/p", "s/\\n/+/", "s//q/", "t", "b", "q", "d", "a\\\nA", "i\\\nI", "c\\\nC", "y/abc/bca/", "=", "l", "tx", "bx", "{", "}", "}", "w g", "r f", "r in", ":x", "s/[ab]/X/2g"}
	var s []string
	for range 1 + r.Intn(6) {
		head := heads[r.Intn(len(heads))]
		body := bodies[r.Intn(len(bodies))]
		if body == "}" || body == ":x" {
			head = ""
		}
		s = append(s, head+body)
	}
	return strings.Join(s, "\n")
}

func someText(r *rand.Rand) string {
	s := ""
	for range r.Intn(6) {
		s += []string{"a\n", "b\n", "ab\n", "abc\n", "\n", "aab\n", "c\tx\n"}[r.Intn(7)]
	}
	if r.Intn(4) == 0 {
		s += "z"
	}
	return s
}

func linesOf(s string) []string {
	if s == "" {
		return nil
	}
	return strings.Split(strings.TrimSuffix(s, "\n"), "\n")
}

// contents: the files of a disk.
func contents(d *disk.Disk) map[string]string {
	m := map[string]string{}
	for _, f := range d.Files() {
		m[f.Name] = string(f.Bytes)
	}
	return m
}

// W1, W5: runs of the tool, held against the reference.
func TestRuns(t *testing.T) {
	r := rand.New(rand.NewSource(1))
	runs := 0
	for runs < 6000 {
		script := someScript(r)
		cmds, quiet, e, _ := parse.Parse([]byte(script), false)
		if e != api.OK {
			continue
		}
		p, e, _ := resolve.Resolve(cmds, quiet)
		if e != api.OK {
			continue
		}
		runs++
		old := map[string]string{"1": someText(r), "2": someText(r), "in": "r\ns"}
		var files []api.File
		for _, name := range slices.Sorted(maps.Keys(old)) {
			files = append(files, api.File{Name: name, Bytes: []byte(old[name]), Synced: len(old[name])})
		}
		d, _ := disk.From(1<<20, files)
		var args []string
		mode := r.Intn(3)
		args = append(args, [][]string{nil, {"-s"}, {"-i"}}[mode]...)
		p.Quiet = r.Intn(3) == 0
		if p.Quiet {
			args = append(args, "-n")
		}
		most := r.Intn(120)
		report := tool.Run(d, append(args, "-e", script, "--", "1", "2"), nil, most)
		checkRun(t, script, mode, p, old, most, report, contents(d))
		n := len(linesOf(old["1"])) + len(linesOf(old["2"]))
		if resolve.Straight(p) && report.Steps > len(p.Cmds)*(n+1) {
			t.Fatalf("W5: %q: %d steps", script, report.Steps)
		}
	}
}

// checkRun: what the reference says of a run: mode 0 over both files, 1 over each by itself, 2 in place.
func checkRun(t *testing.T, script string, mode int, p api.Program, old map[string]string, most int, report api.Report, got map[string]string) {
	t.Helper()
	want := maps.Clone(old)
	for _, name := range p.Files {
		want[name] = ""
	}
	inputs := [][]string{{"1"}, {"2"}}
	if mode == 0 {
		inputs = [][]string{{"1", "2"}}
	}
	out, status, steps := "", 0, 0
	var notes []api.Note
	for _, names := range inputs {
		ref := &reference{p: p, files: want, most: most - steps}
		for _, name := range names {
			ref.lines = append(ref.lines, linesOf(want[name])...)
		}
		ref.run()
		steps += ref.steps
		switch {
		case mode < 2:
			out += ref.out.String()
		case !ref.cut:
			want[names[0]] = ref.out.String()
		}
		if ref.cut {
			status = 3
			notes = []api.Note{{Err: api.ErrSteps, At: -1}}
			if mode == 2 {
				notes[0].Name = names[0]
			}
			break
		}
	}
	if string(report.Out) != out || report.Status != status || report.Steps != steps || !slices.Equal(report.Notes, notes) || !maps.Equal(got, want) {
		t.Fatalf("%q, mode %d, quiet %v, most %d, of %q:\n%q %v\n%q\nnot\n%q %d %d\n%q", script, mode, p.Quiet, most, old, report.Out, report, got, out, status, steps, want)
	}
}

// W1: what is malformed brings one diagnostic, status 1, and changes nothing.
func TestMalformed(t *testing.T) {
	r := rand.New(rand.NewSource(2))
	bits := []string{"p", "1", ",", "$", "/a/", "!", ";", "\n", "{", "}", "s/a/b/", "g", "w f", "y/a/bb/", "\\", "b x", ":", "-n", "-z", "--", "-e", "-f", "-i", "2", "//", "[", "w .galley-a"}
	n := 0
	for range 20000 {
		var args []string
		for range r.Intn(4) {
			s := ""
			for range 1 + r.Intn(3) {
				s += bits[r.Intn(len(bits))]
			}
			args = append(args, s)
		}
		d, _ := disk.From(99, []api.File{{Name: "a", Bytes: []byte("x\n"), Synced: 1}})
		report := tool.Run(d, args, []byte("s\n"), 50)
		if report.Status != 1 {
			continue
		}
		n++
		if len(report.Notes) != 1 || len(report.Out) > 0 || report.Steps != 0 || d.Done() != 0 || contents(d)["a"] != "x\n" {
			t.Fatalf("%q: %v", args, report)
		}
	}
	if n < 1000 {
		t.Error("too few")
	}
}

// W2, W4: one fault, or a loss of power, anywhere in runs in place.
func TestInPlace(t *testing.T) {
	r := rand.New(rand.NewSource(3))
	names := []string{"1", "2", "3"}
	for range 4000 {
		old := map[string]string{}
		var files []api.File
		for _, name := range names {
			old[name] = strings.Repeat(someText(r)+"-\n", 1+r.Intn(12))
			files = append(files, api.File{Name: name, Bytes: []byte(old[name]), Synced: len(old[name])})
		}
		script := []string{"s/^/+/", "p", "$d", "w f\n1d", "$w g", "N;N;s/\\n/,/g"}[r.Intn(6)]
		args := []string{"-i", script, "1", "2", "3"}
		whole, _ := disk.From(1<<20, files)
		tool.Run(whole, args, nil, 9999)
		fresh := contents(whole)
		d, _ := disk.From(1<<20, files)
		err := []api.Errno{api.ErrIO, api.ErrFull, api.ErrDown}[r.Intn(3)]
		d.Plan(api.Fault{N: 1 + r.Intn(40), Err: err})
		report := tool.Run(d, args, nil, 9999)
		if err == api.ErrDown {
			lose(r, d)
			if report.Status == 0 {
				d.Plan()
			}
			for try := 0; temps.Clean(d) != api.OK; try++ {
				lose(r, d)
				if try > 2 {
					d.Plan()
				}
			}
		}
		got := contents(d)
		fits := func(k int) bool {
			for i, name := range names {
				isNew, isOld := got[name] == fresh[name], got[name] == old[name]
				if i < k && !isNew || i > k && !isOld || i == k && !isNew && !isOld {
					return false
				}
			}
			return true
		}
		if !slices.ContainsFunc([]int{0, 1, 2}, fits) || report.Status == 0 && !fits(3) {
			t.Fatalf("%q, %d, status %d: %q", script, err, report.Status, got)
		}
		if len(temps.Stale(d)) > 0 || report.Status != 0 && report.Status != 4 {
			t.Fatalf("%q, %d: %v, %q", script, err, report, got)
		}
	}
}

// lose: the power goes and comes back; something of what was not synced is left.
func lose(r *rand.Rand, d *disk.Disk) {
	d.Off()
	d.Plan(api.Fault{N: 1 + r.Intn(4), Err: api.ErrDown})
	d.Start(r.Intn(5)-1, r.Intn(80), r.Intn(80), r.Intn(80), r.Intn(80), r.Intn(80))
}
