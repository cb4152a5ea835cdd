package inplace

import (
	"strings"
	"testing"

	"galley/api"
	"galley/disk"
	"galley/outs"
	"galley/temps"
)

func made(t *testing.T, room int, files ...api.File) *disk.Disk {
	t.Helper()
	d, e := disk.From(room, files)
	if e != api.OK {
		t.Fatal(e)
	}
	return d
}

func file(name, bytes string) api.File {
	return api.File{Name: name, Bytes: []byte(bytes), Synced: len(bytes)}
}

// writing: a run that writes these parts.
func writing(parts ...string) func(b []byte, o *outs.Out) api.Errno {
	return func(b []byte, o *outs.Out) api.Errno {
		for _, p := range parts {
			if e := o.Write([]byte(p)); e != api.OK {
				return e
			}
		}
		return api.OK
	}
}

// shown: the files of a disk, each with its bytes.
func shown(d *disk.Disk) string {
	s := ""
	for _, f := range d.Files() {
		s += f.Name + "=" + string(f.Bytes) + " "
	}
	return strings.TrimSuffix(s, " ")
}

// P30.1
func TestEdit(t *testing.T) {
	plan := func(n int, e api.Errno) []api.Fault { return []api.Fault{{N: n, Err: e}} }
	long := strings.Repeat("n", 100)
	for i, c := range []struct {
		files   []api.File
		room    int
		plan    []api.Fault
		run     func(b []byte, o *outs.Out) api.Errno
		want    api.Errno
		shown   string
		done    int
		pending int
	}{
		{[]api.File{file("f", "old")}, 99, nil, writing("new"), api.OK, "f=new", 5, 0}, {[]api.File{file("f", "old"), file(".galley-f", "stale")}, 99, nil, writing("new"), api.OK, "f=new", 6, 0}, {[]api.File{file("f", "old")}, 99, plan(1, api.ErrFull), writing("new"), api.ErrFull, "f=old", 0, 0}, {[]api.File{file("f", "old")}, 99, plan(2, api.ErrIO), writing("new"), api.ErrIO, "f=old", 2, 2}, {[]api.File{file("f", "old")}, 99, plan(3, api.ErrFull), writing("new"), api.ErrFull, "f=old", 3, 2}, {[]api.File{file("f", "old")}, 99, plan(4, api.ErrIO), writing("new"), api.ErrIO, "f=old", 4, 2}, {[]api.File{file("f", "old")}, 99, plan(5, api.ErrIO), writing("new"), api.ErrIO, "f=new", 4, 2},
		{[]api.File{file("f", "old")}, 5, nil, writing("new"), api.ErrFull, "f=old", 2, 2}, {[]api.File{{Name: "f", Bytes: []byte("old"), Bad: true}}, 99, nil, writing("new"), api.ErrIO, "f=old", 0, 0}, {[]api.File{file("g", "old")}, 99, nil, writing("new"), api.ErrGone, "g=old", 0, 0}, {[]api.File{file("f", "old")}, 99, nil, func(b []byte, o *outs.Out) api.Errno { return api.ErrSpace }, api.ErrSpace, "f=old", 2, 2}, {[]api.File{file("f", "old")}, 999, nil, func(b []byte, o *outs.Out) api.Errno { o.Write([]byte(long)); return 77 }, 77, "f=old", 3, 2},
		{[]api.File{file("f", "old")}, 999, nil, writing("a", long, "b", "c"), api.OK, "f=a" + long + "bc", 6, 0}, {[]api.File{file("f", "")}, 99, nil, writing(), api.OK, "f=", 4, 0}, {[]api.File{file("f", "old")}, 99, nil, func(b []byte, o *outs.Out) api.Errno { return o.Write(b, b) }, api.OK, "f=oldold", 5, 0}, {[]api.File{file("f", "old"), file(".galley-f", "s"), file("g", "x")}, 99, plan(4, api.ErrIO), writing("new"), api.ErrIO, "f=old g=x", 4, 3},
		{[]api.File{file("f", "old")}, 999, plan(2, api.ErrIO), func(b []byte, o *outs.Out) api.Errno { o.Write([]byte(long)); return api.OK }, api.ErrIO, "f=old", 2, 2},
	} {
		d := made(t, c.room, c.files...)
		d.Plan(c.plan...)
		if e := Edit(d, "f", c.run); e != c.want || shown(d) != c.shown || d.Done() != c.done || d.Pending() != c.pending {
			t.Errorf("%d: %d, %s, done %d, pending %d", i, e, shown(d), d.Done(), d.Pending())
		}
	}
}

// P30.1: names, and disks that are none; run is not called.
func TestRefused(t *testing.T) {
	never := func(b []byte, o *outs.Out) api.Errno {
		t.Error("run is called")
		return api.OK
	}
	d := made(t, 99, file("f", "old"), file(".galley-x", "y"))
	for _, name := range []string{".galley-x", "", "a/b", strings.Repeat("n", 57), "\n"} {
		if e := Edit(d, name, never); e != api.ErrName || d.Done() != 0 {
			t.Errorf("%q: %d", name, e)
		}
	}
	for _, d := range []*disk.Disk{nil, {}} {
		if e := Edit(d, ".galley-", never); e != api.ErrArg {
			t.Errorf("%d", e)
		}
	}
	d.Off()
	if e := Edit(d, "f", never); e != api.ErrDown {
		t.Errorf("%d", e)
	}
	if e := Edit(d, "", never); e != api.ErrName {
		t.Errorf("%d", e)
	}
	d = made(t, 99, file("f", "old"), file(".galley-f", "s"))
	d.Plan(api.Fault{N: 1, Err: api.ErrDown})
	if e := Edit(d, "f", never); e != api.ErrDown {
		t.Errorf("%d", e)
	}
}

// P30.1, and what follows: wherever the power goes, whatever is left.
func TestCrash(t *testing.T) {
	parts := []string{strings.Repeat("a", 70), strings.Repeat("b", 70), "c"}
	all := strings.Join(parts, "")
	for _, stale := range []bool{false, true} {
		for at := 1; at <= 8; at++ {
			for dir := range 5 {
				for _, keep := range []int{0, 1, 70, 999} {
					for recut := range 4 {
						files := []api.File{file("f", "old"), file("g", "x")}
						if stale {
							files = append(files, file(".galley-f", "stale"))
						}
						d := made(t, 999, files...)
						d.Plan(api.Fault{N: at, Err: api.ErrDown})
						e := Edit(d, "f", writing(parts...))
						d.Off()
						d.Start(dir, keep, keep, keep)
						checkFile(t, d, all, e)
						if recut > 0 {
							d.Plan(api.Fault{N: recut, Err: api.ErrDown})
						}
						if temps.Clean(d) != api.OK {
							d.Start(dir)
							d.Plan()
							if e := temps.Clean(d); e != api.OK {
								t.Fatal(e)
							}
						}
						checkFile(t, d, all, e)
						if len(d.Names()) != 2 {
							t.Fatalf("%v", d.Names())
						}
					}
				}
			}
		}
	}
}

func checkFile(t *testing.T, d *disk.Disk, all string, edited api.Errno) {
	t.Helper()
	b, e := d.Read("f")
	if g, _ := d.Read("g"); e != api.OK || string(b) != "old" && string(b) != all || edited == api.OK && string(b) != all || string(g) != "x" {
		t.Fatalf("%q %d", b, e)
	}
}

// P30.2
func TestMemory(t *testing.T) {
	d := made(t, 99, file("f", "old"))
	var kept *outs.Out
	Edit(d, "f", func(b []byte, o *outs.Out) api.Errno {
		kept = o
		e := o.Write(b)
		b[0] = '!'
		if x, _ := d.Read("f"); string(x) != "old" {
			t.Error("shared")
		}
		return e
	})
	if shown(d) != "f=old" || kept == nil {
		t.Error(shown(d))
	}
}
