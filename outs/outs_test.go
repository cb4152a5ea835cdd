package outs

import (
	"bytes"
	"math/rand"
	"slices"
	"testing"

	"galley/api"
)

// sink gathers what it is called with, and answers by turn.
type sink struct {
	got     []string
	answers []api.Errno
}

func (s *sink) take(b []byte) api.Errno {
	s.got = append(s.got, string(b))
	for i := range b[:cap(b)] {
		b[:cap(b)][i] = '!' // what is handed on is new memory
	}
	if len(s.answers) == 0 {
		return api.OK
	}
	e := s.answers[0]
	s.answers = s.answers[1:]
	return e
}

func made(t *testing.T, size int, answers ...api.Errno) (*Out, *sink) {
	t.Helper()
	s := &sink{answers: answers}
	o, e := New(size, s.take)
	if e != api.OK {
		t.Fatal(e)
	}
	return o, s
}

func parts(l ...string) [][]byte {
	var out [][]byte
	for _, s := range l {
		out = append(out, []byte(s))
	}
	return out
}

// P14.1 to P14.4
func TestWrite(t *testing.T) {
	o, s := made(t, 4)
	check := func(what string, e, want api.Errno, calls int, count int) {
		t.Helper()
		if e != want || len(s.got) != calls || o.Count() != count {
			t.Errorf("%s: %d, %q, %d", what, e, s.got, o.Count())
		}
	}
	check("new", o.Err(), api.OK, 0, 0)
	check("ab", o.Write(parts("ab")...), api.OK, 0, 0)
	check("c, nothing, de", o.Write(parts("c", "", "de")...), api.OK, 1, 5)
	check("no part", o.Write(), api.OK, 1, 5)
	check("Flush", o.Flush(), api.OK, 1, 5)
	check("fgh", o.Write(parts("fgh")...), api.OK, 1, 5)
	check("Flush", o.Flush(), api.OK, 2, 8)
	check("just enough", o.Write(parts("ijkl")...), api.OK, 3, 12)
	if !slices.Equal(s.got, []string{"abcde", "fgh", "ijkl"}) {
		t.Errorf("%q", s.got)
	}
	o, s = made(t, 0)
	check("a", o.Write(parts("a")...), api.OK, 1, 1)
	check("nothing", o.Write(parts("")...), api.OK, 1, 1)
	check("nothing", o.Write(), api.OK, 1, 1)
	if o, e := New(-1, s.take); o != nil || e != api.ErrArg {
		t.Error("P14.1")
	}
}

// P14.2 to P14.4: the first error sticks.
func TestErrors(t *testing.T) {
	o, s := made(t, 2, api.ErrFull)
	for i, c := range []struct{ e, want api.Errno }{{o.Write(parts("a")...), api.OK}, {o.Write(parts("b")...), api.ErrFull}, {o.Write(parts("c")...), api.ErrFull}, {o.Flush(), api.ErrFull}, {o.Err(), api.ErrFull}, {o.Write(), api.ErrFull}} {
		if c.e != c.want {
			t.Errorf("%d: %d", i, c.e)
		}
	}
	if len(s.got) != 1 || o.Count() != 0 {
		t.Errorf("%q, %d", s.got, o.Count())
	}
	o, s = made(t, 9, api.OK, 77)
	o.Write(parts("abc")...)
	if o.Flush() != api.OK || o.Write(parts("de")...) != api.OK || o.Flush() != 77 || o.Flush() != 77 || o.Err() != 77 || o.Count() != 3 || len(s.got) != 2 {
		t.Errorf("%q, %d", s.got, o.Count())
	}
}

// P14.5
func TestNone(t *testing.T) {
	for _, o := range []*Out{nil, {}} {
		if o.Write(parts("a")...) != api.ErrArg || o.Write() != api.ErrArg || o.Flush() != api.ErrArg || o.Err() != api.ErrArg || o.Count() != 0 {
			t.Error("none")
		}
	}
	o, s := made(t, 4)
	b := append(make([]byte, 0, 9), "ab"...)
	o.Write(b)
	b[0] = 'x'
	o.Write([]byte("cd"))
	if s.got[0] != "abcd" || string(b[:cap(b)][:3]) != "xb\x00" {
		t.Errorf("%q", s.got)
	}
}

// What follows: all bytes come in their order, in pieces that are great enough.
func TestRows(t *testing.T) {
	r := rand.New(rand.NewSource(1))
	for range 500 {
		size := r.Intn(9)
		o, s := made(t, size)
		var all []byte
		for range r.Intn(20) {
			calls, held := len(s.got), len(all)-o.Count()
			if r.Intn(5) == 0 {
				o.Flush()
				if len(all) != o.Count() {
					t.Fatal("Flush")
				}
				continue
			}
			p := make([]byte, r.Intn(6))
			r.Read(p)
			o.Write(p[:len(p)/2], p[len(p)/2:])
			all = append(all, p...)
			if n := len(s.got); n > calls && (n > calls+1 || len(s.got[calls]) < size || held >= max(size, 1)) || n == calls && held+len(p) >= max(size, 1) {
				t.Fatalf("size %d: %q", size, s.got)
			}
		}
		o.Flush()
		var got []byte
		for _, x := range s.got {
			if x == "" {
				t.Fatal("no bytes")
			}
			got = append(got, x...)
		}
		if !bytes.Equal(got, all) || o.Count() != len(all) {
			t.Fatalf("%q, not %q", got, all)
		}
	}
}
