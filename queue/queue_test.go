package queue

import (
	"math/rand"
	"slices"
	"strings"
	"testing"

	"galley/api"
)

// flushed: what goes out, and the answer; out refuses the call of that number with ErrFull.
func flushed(q *Queue, files map[string]string, refuse int) ([]string, api.Errno) {
	var got []string
	e := q.Flush(func(name string) []byte {
		b := []byte(files[name])
		return b
	}, func(b []byte) api.Errno {
		got = append(got, string(b))
		for i := range b[:cap(b)] {
			b[:cap(b)][i] = '!'
		}
		if len(got) == refuse {
			return api.ErrFull
		}
		return api.OK
	})
	return got, e
}

// P24.1, P24.2
func TestFlush(t *testing.T) {
	files := map[string]string{"f": "xy", "empty": ""}
	for i, c := range []struct {
		put    string
		refuse int
		want   []string
		err    api.Errno
	}{
		{"ta ff t", 0, []string{"a\n", "xy", "\n"}, api.OK}, {"fnone tb", 0, []string{"b\n"}, api.OK}, {"ta tb", 1, []string{"a\n"}, api.ErrFull}, {"ff ff tb", 2, []string{"xy", "xy"}, api.ErrFull}, {"fempty", 1, nil, api.OK}, {"", 1, nil, api.OK}, {"tx fempty fnone ff", 2, []string{"x\n", "xy"}, api.ErrFull},
	} {
		q := New()
		things := strings.Fields(c.put)
		for _, s := range things {
			if s[0] == 't' {
				q.Text([]byte(s[1:]))
			} else {
				q.File(s[1:])
			}
		}
		if q.Len() != len(things) {
			t.Errorf("%d: Len %d", i, q.Len())
		}
		got, e := flushed(q, files, c.refuse)
		if !slices.Equal(got, c.want) || e != c.err || q.Len() != 0 {
			t.Errorf("%d: %q %d, %d wait", i, got, e, q.Len())
		}
		if got, e := flushed(q, files, 1); got != nil || e != api.OK {
			t.Errorf("%d: once more: %q", i, got)
		}
	}
}

// P24.2: files are read then, in their turn; what is put meanwhile waits.
func TestMeanwhile(t *testing.T) {
	q := New()
	b := append(make([]byte, 0, 9), "ab"...)
	q.Text(b)
	b[0] = 'x'
	q.File("f")
	q.File("g")
	kept := []byte("content")
	var calls []string
	e := q.Flush(func(name string) []byte {
		calls = append(calls, "read "+name)
		q.Text([]byte("later"))
		return kept
	}, func(b []byte) api.Errno {
		calls = append(calls, "out "+string(b))
		b[0] = '!'
		q.File("f")
		return api.OK
	})
	if want := []string{"out ab\n", "read f", "out content", "read g", "out content"}; !slices.Equal(calls, want) || e != api.OK || q.Len() != 5 || string(kept) != "content" || string(b[:3]) != "xb\x00" {
		t.Errorf("%q, %d wait", calls, q.Len())
	}
	// A refusal leaves what was put meanwhile, and nothing else.
	e = q.Flush(func(string) []byte { return nil }, func([]byte) api.Errno {
		q.Text(nil)
		return 77
	})
	if e != 77 || q.Len() != 1 {
		t.Errorf("%d, %d wait", e, q.Len())
	}
}

// P24.1: many things, in their order.
func TestOrder(t *testing.T) {
	r := rand.New(rand.NewSource(1))
	for range 300 {
		q := New()
		var want []string
		for i := range r.Intn(20) {
			s := string(rune('a' + i))
			if r.Intn(2) == 0 {
				q.Text([]byte(s))
				want = append(want, s+"\n")
			} else {
				q.File(s)
				want = append(want, s)
			}
		}
		files := map[string]string{}
		for i := range 20 {
			files[string(rune('a'+i))] = string(rune('a' + i))
		}
		if got, e := flushed(q, files, 0); !slices.Equal(got, want) || e != api.OK {
			t.Fatalf("%q, not %q", got, want)
		}
	}
}

// P24.3
func TestNone(t *testing.T) {
	for _, q := range []*Queue{nil, {}} {
		q.Text([]byte("a"))
		q.File("f")
		if got, e := flushed(q, nil, 0); got != nil || e != api.ErrArg || q.Len() != 0 {
			t.Error("none")
		}
	}
}
