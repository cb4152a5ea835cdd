package space

import (
	"bytes"
	"math/rand"
	"testing"

	"galley/api"
)

func made(t *testing.T, most int) *Space {
	t.Helper()
	s, e := New(most)
	if e != api.OK {
		t.Fatal(e)
	}
	return s
}

// P25.1
func TestNew(t *testing.T) {
	for most, want := range map[int]api.Errno{-1: api.ErrArg, 0: api.OK, api.MaxSpace: api.OK, api.MaxSpace + 1: api.ErrArg} {
		s, e := New(most)
		if e != want || (s == nil) != (want != api.OK) || s != nil && (len(s.Pattern()) > 0 || len(s.Hold()) > 0) {
			t.Errorf("%d: %d", most, e)
		}
	}
}

// P25.2 to P25.5
func TestExamples(t *testing.T) {
	s := made(t, 5)
	check := func(what string, e, want api.Errno, pattern, hold string) {
		t.Helper()
		if e != want || string(s.Pattern()) != pattern || string(s.Hold()) != hold {
			t.Errorf("%s: %d, %q, %q", what, e, s.Pattern(), s.Hold())
		}
	}
	check("Put", s.Put([]byte("abc")), api.OK, "abc", "")
	check("H", s.Do('H'), api.OK, "abc", "\nabc")
	check("G", s.Do('G'), api.ErrSpace, "abc", "\nabc")
	check("x", s.Do('x'), api.OK, "\nabc", "abc")
	if b, ok := s.First(); len(b) != 0 || !ok {
		t.Error("First")
	}
	if !s.Cut() {
		t.Error("Cut")
	}
	check("Cut", api.OK, api.OK, "abc", "abc")
	if s.Cut() {
		t.Error("Cut")
	}
	if b, ok := s.First(); string(b) != "abc" || ok {
		t.Error("First")
	}
	check("Put", s.Put([]byte("abcdef")), api.ErrSpace, "abc", "abc")
	check("Join", s.Join([]byte("de")), api.ErrSpace, "abc", "abc")
	check("Join", s.Join([]byte("d")), api.OK, "abc\nd", "abc")
	check("H", s.Do('H'), api.ErrSpace, "abc\nd", "abc")
	check("h", s.Do('h'), api.OK, "abc\nd", "abc\nd")
	check("Put", s.Put(nil), api.OK, "", "abc\nd")
	check("g", s.Do('g'), api.OK, "abc\nd", "abc\nd")
	check("y", s.Do('y'), api.ErrArg, "abc\nd", "abc\nd")
	check("0", s.Do(0), api.ErrArg, "abc\nd", "abc\nd")
	s = made(t, 0)
	check("Put", s.Put(nil), api.OK, "", "")
	check("Put", s.Put([]byte("a")), api.ErrSpace, "", "")
	check("Join", s.Join(nil), api.ErrSpace, "", "")
	for name, want := range map[byte]api.Errno{'G': api.ErrSpace, 'H': api.ErrSpace, 'g': api.OK, 'h': api.OK, 'x': api.OK} {
		check(string(name), s.Do(name), want, "", "")
	}
	s = made(t, 9)
	s.Put([]byte("a"))
	s.Join([]byte("b"))
	check("Join", s.Join(nil), api.OK, "a\nb\n", "")
	s.Cut()
	check("Cut", api.OK, api.OK, "b\n", "")
	s.Cut()
	check("Cut", api.OK, api.OK, "", "")
	if s.Cut() {
		t.Error("Cut")
	}
}

// What follows, and R5: held against two rows of bytes.
func TestRows(t *testing.T) {
	r := rand.New(rand.NewSource(1))
	for range 300 {
		most := r.Intn(12)
		s := made(t, most)
		var p, h []byte
		for range 40 {
			b := []byte("a\nbc\nd"[:r.Intn(7)])
			var e api.Errno
			np, nh := bytes.Clone(p), bytes.Clone(h)
			switch r.Intn(8) {
			case 0:
				e, np = s.Put(b), bytes.Clone(b)
			case 1:
				e, np = s.Join(b), append(append(np, '\n'), b...)
			case 2:
				e, np = s.Do('g'), bytes.Clone(h)
			case 3:
				e, np = s.Do('G'), append(append(np, '\n'), h...)
			case 4:
				e, nh = s.Do('h'), bytes.Clone(p)
			case 5:
				e, nh = s.Do('H'), append(append(nh, '\n'), p...)
			case 6:
				e, np, nh = s.Do('x'), nh, np
			case 7:
				i := bytes.IndexByte(p, '\n')
				first, ok := s.First()
				if ok != (i >= 0) || !bytes.Equal(first, append([]byte{}, p[:max(i, 0)+len(p)*b2i(i < 0)]...)) || s.Cut() != ok {
					t.Fatalf("First of %q: %q %v", p, first, ok)
				}
				np = np[i+1:]
			}
			if long := len(np) > most || len(nh) > most; long != (e == api.ErrSpace) || !long && e != api.OK {
				t.Fatalf("%q %q: %d", np, nh, e)
			} else if !long {
				p, h = np, nh
			}
			for i := range b {
				b[i] = '!'
			}
			pattern, hold := s.Pattern(), s.Hold()
			if !bytes.Equal(pattern, p) || !bytes.Equal(hold, h) {
				t.Fatalf("%q %q, not %q %q", pattern, hold, p, h)
			}
			for i := range pattern {
				pattern[i] = '!'
			}
		}
	}
}

func b2i(b bool) int {
	if b {
		return 1
	}
	return 0
}

// P25.2
func TestNone(t *testing.T) {
	for _, s := range []*Space{nil, {}} {
		first, ok := s.First()
		if s.Pattern() != nil || s.Hold() != nil || s.Put(nil) != api.ErrArg || s.Join(nil) != api.ErrArg || s.Do('x') != api.ErrArg || s.Do('y') != api.ErrArg || first != nil || ok || s.Cut() {
			t.Error("none")
		}
	}
}
