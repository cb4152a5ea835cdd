package lines

import (
	"bytes"
	"math/rand"
	"runtime"
	"slices"
	"strings"
	"testing"

	"galley/api"
)

// inputs: what each name opens to; without one an error. asked tells which were opened.
func inputs(of map[string]string, asked *[]string) func(name string) ([]byte, api.Errno) {
	return func(name string) ([]byte, api.Errno) {
		*asked = append(*asked, name)
		if s, ok := of[name]; ok {
			return []byte(s), api.OK
		}
		return []byte("not to be read\n"), api.ErrIO
	}
}

// P13.1 to P13.3
func TestReader(t *testing.T) {
	var asked []string
	names := []string{"x", "y", "z", "w", "v"}
	r := New(names, inputs(map[string]string{"x": "a\nb\n", "y": "", "w": "c\n", "v": ""}, &asked))
	names[0] = "other"
	next := func(want string, ok bool, opened string, last bool, line int, missed string) {
		t.Helper()
		b, is := r.Next()
		if string(b) != want || is != ok || strings.Join(asked, "") != opened || r.Last() != last || r.Line() != line || strings.Join(r.Missed(), "") != missed {
			t.Errorf("%q %v, %v open, last %v, line %d, missed %v", b, is, asked, r.Last(), r.Line(), r.Missed())
		}
	}
	if len(asked) != 0 || r.Last() || r.Line() != 0 || r.Missed() != nil {
		t.Error("P13.1: New opens nothing")
	}
	next("a", true, "x", false, 1, "")
	next("b", true, "xyzw", false, 2, "z")
	next("c", true, "xyzwv", true, 3, "z")
	next("", false, "xyzwv", true, 3, "z")
	next("", false, "xyzwv", true, 3, "z")
	r.Missed()[0] = "?"
	if r.Missed()[0] != "z" {
		t.Error("R5")
	}
}

// P13.1 to P13.3
func TestEmpty(t *testing.T) {
	var asked []string
	for _, names := range [][]string{nil, {"z"}, {"y", "z", "y"}} {
		r := New(names, inputs(map[string]string{"y": ""}, &asked))
		b, ok := r.Next()
		want := slices.DeleteFunc(slices.Clone(names), func(s string) bool { return s == "y" })
		if b != nil || ok || r.Last() || r.Line() != 0 || !slices.Equal(r.Missed(), want) {
			t.Errorf("%v: %v %v", names, ok, r.Missed())
		}
	}
	for _, r := range []*Reader{nil, {}} {
		if b, ok := r.Next(); b != nil || ok || r.Last() || r.Line() != 0 || r.Missed() != nil {
			t.Error("none")
		}
	}
	r := New([]string{"x"}, func(string) ([]byte, api.Errno) { return []byte("\n"), api.OK })
	if b, ok := r.Next(); len(b) != 0 || !ok || !r.Last() {
		t.Error("an empty line")
	}
}

// P13.4
func TestCut(t *testing.T) {
	for in, want := range map[string][]string{"a\n\nb": {"a", "", "b"}, "a\n": {"a"}, "\n": {""}, "": nil, "a": {"a"}, "\n\n": {"", ""}, "\na": {"", "a"}, "a\r\n\x00": {"a\r", "\x00"}} {
		var got []string
		for _, l := range Cut([]byte(in)) {
			got = append(got, string(l))
		}
		if !slices.Equal(got, want) {
			t.Errorf("%q: %q", in, got)
		}
	}
	text := []byte("ab\ncd\n")
	l := Cut(text)
	text[0] = 'x'
	l[0] = append(l[0], "yyyy"...)
	if string(l[0]) != "abyyyy" || string(l[1]) != "cd" || string(text) != "xb\ncd\n" {
		t.Error("R5")
	}
}

// What follows: a reader's lines are the Cuts of its inputs, the last of them alone is the last; nothing is left running.
func TestRows(t *testing.T) {
	r := rand.New(rand.NewSource(1))
	before := runtime.NumGoroutine()
	for range 500 {
		of := map[string]string{}
		var names []string
		var want [][]byte
		for i := range r.Intn(5) {
			name := string(rune('a' + i))
			names = append(names, name)
			if r.Intn(4) == 0 {
				continue
			}
			for range r.Intn(6) {
				of[name] += []string{"x", "\n", "yy\n", "z"}[r.Intn(4)]
			}
			of[name] += ""
			want = append(want, Cut([]byte(of[name]))...)
			if joined := bytes.Join(append(Cut([]byte(of[name])), nil), []byte{'\n'}); len(of[name]) > 0 && string(joined) != strings.TrimSuffix(of[name], "\n")+"\n" {
				t.Fatalf("%q: %q", of[name], joined)
			}
		}
		var asked []string
		reader := New(names, inputs(of, &asked))
		for i, l := range want {
			b, ok := reader.Next()
			if !ok || !bytes.Equal(b, l) || reader.Last() != (i == len(want)-1) || reader.Line() != i+1 {
				t.Fatalf("%v: %q", of, b)
			}
		}
		if _, ok := reader.Next(); ok {
			t.Fatalf("%v: one more", of)
		}
	}
	if runtime.NumGoroutine() > before {
		t.Error("goroutines are left")
	}
}
