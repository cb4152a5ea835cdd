package temps

import (
	"slices"
	"strings"
	"testing"

	"galley/api"
	"galley/disk"
)

// P29.1
func TestName(t *testing.T) {
	for in, want := range map[string]string{"a": ".galley-a", strings.Repeat("n", 56): ".galley-" + strings.Repeat("n", 56), ".galley": ".galley-.galley", "x.galley-": ".galley-x.galley-", "\xff ": ".galley-\xff "} {
		if got, ok := Name(in); got != want || !ok || !Is(got) {
			t.Errorf("%q: %q %v", in, got, ok)
		}
	}
	for _, in := range []string{"", ".galley-", ".galley-a", "a/b", "a\nb", "a\x00", "/", strings.Repeat("n", 57), strings.Repeat("n", 99)} {
		if got, ok := Name(in); got != "" || ok {
			t.Errorf("%q: %q %v", in, got, ok)
		}
	}
	for in, want := range map[string]bool{".galley-": true, ".galley-x": true, ".galley": false, "": false, "galley-": false, "x.galley-": false, ".Galley-": false, ".galley-" + strings.Repeat("x", 99): true, ".galley-/\n": true} {
		if Is(in) != want {
			t.Errorf("%q: %v", in, !want)
		}
	}
}

func made(t *testing.T) *disk.Disk {
	t.Helper()
	d, e := disk.From(99, []api.File{{Name: ".galley-a", Bytes: []byte("x"), Synced: 1}, {Name: "b", Bytes: []byte("yz"), Synced: 1}, {Name: ".galley-", Bad: true}, {Name: ".galley"}})
	if e != api.OK {
		t.Fatal(e)
	}
	return d
}

func names(d *disk.Disk) string { return strings.Join(d.Names(), " ") }

// P29.2, P29.3
func TestClean(t *testing.T) {
	d := made(t)
	if got := Stale(d); !slices.Equal(got, []string{".galley-", ".galley-a"}) {
		t.Errorf("%q", got)
	}
	if e := Clean(d); e != api.OK || d.Done() != 3 || d.Pending() != 0 || names(d) != ".galley b" {
		t.Errorf("%d: %d %d %s", e, d.Done(), d.Pending(), names(d))
	}
	if e := Clean(d); e != api.OK || d.Done() != 3 || Stale(d) != nil {
		t.Errorf("%d: %d", e, d.Done())
	}
	d = made(t)
	d.Plan(api.Fault{N: 3, Err: api.ErrIO})
	if e := Clean(d); e != api.ErrIO || names(d) != ".galley b" || d.Pending() != 2 {
		t.Errorf("%d: %s", e, names(d))
	}
	if e := Clean(d); e != api.OK || d.Pending() != 2 {
		t.Errorf("%d: %d", e, d.Pending())
	}
	d = made(t)
	d.Plan(api.Fault{N: 1, Err: api.ErrIO}, api.Fault{N: 2, Err: api.ErrFull})
	if e := Clean(d); e != api.OK || names(d) != ".galley b" || d.Pending() != 0 {
		t.Errorf("%d: %s", e, names(d))
	}
	d.Off()
	if e := Clean(d); e != api.ErrDown || Stale(d) != nil {
		t.Errorf("%d", e)
	}
	for _, d := range []*disk.Disk{nil, {}} {
		if e := Clean(d); e != api.ErrArg || Stale(d) != nil {
			t.Errorf("%d", e)
		}
	}
}

// P29.3, and what follows: wherever the power goes in a Clean, again and again.
func TestCrash(t *testing.T) {
	for at := 1; at <= 3; at++ {
		for dir := range 4 {
			for at2 := 1; at2 <= 4; at2++ {
				for keep := range 3 {
					d := made(t)
					d.Plan(api.Fault{N: at, Err: api.ErrDown})
					if e := Clean(d); e != api.ErrDown {
						t.Fatal(e)
					}
					d.Start(dir, keep, keep, keep, keep)
					want := []string{".galley", ".galley-", ".galley-a", "b"}
					// A change that was pending may have come about: no more than at - 1 were done.
					want = slices.DeleteFunc(want, func(s string) bool {
						return s == ".galley-" && min(dir, at-1) >= 1 || s == ".galley-a" && min(dir, at-1) >= 2
					})
					if !slices.Equal(d.Names(), want) {
						t.Fatalf("%d %d: %v", at, dir, d.Names())
					}
					d.Plan(api.Fault{N: at2, Err: api.ErrDown})
					if Clean(d) == api.ErrDown {
						d.Start(at2, keep)
					}
					d.Plan()
					if e := Clean(d); e != api.OK || names(d) != ".galley b" || d.Pending() != 0 {
						t.Fatalf("%d %d %d: %d %v", at, dir, at2, e, d.Names())
					}
					d.Off()
					d.Start(0)
					if b, e := d.Read("b"); names(d) != ".galley b" || e != api.OK || string(b) != "yz" && string(b) != "y" {
						t.Fatalf("%q", b)
					}
				}
			}
		}
	}
}
