package opts

import (
	"math/rand"
	"reflect"
	"slices"
	"strings"
	"testing"

	"galley/api"
)

func text(s string) api.Part { return api.Part{Text: s} }
func file(s string) api.Part { return api.Part{File: true, Text: s} }

func parts(l ...api.Part) []api.Part { return l }

// same: alike, lists without elements too.
func same(a, b api.Options) bool {
	return a.Quiet == b.Quiet && a.Ere == b.Ere && a.Apart == b.Apart && a.InPlace == b.InPlace && slices.Equal(a.Parts, b.Parts) && slices.Equal(a.Files, b.Files)
}

// P28.1
func TestParse(t *testing.T) {
	for _, c := range []struct {
		args []string
		want api.Options
	}{
		{[]string{"-n", "p", "a"}, api.Options{Quiet: true, Parts: parts(text("p")), Files: []string{"a"}}}, {[]string{"-nEsep;p", "a", "-b"}, api.Options{Quiet: true, Ere: true, Apart: true, Parts: parts(text("p;p")), Files: []string{"a", "-b"}}}, {[]string{"-e", "-n", "-f", "x", "-"}, api.Options{Parts: parts(text("-n"), file("x")), Files: []string{"-"}}}, {[]string{"-i", "--", "-p"}, api.Options{InPlace: true, Apart: true, Parts: parts(text("-p"))}}, {[]string{"-e", ""}, api.Options{Parts: parts(text(""))}},
		{[]string{"p"}, api.Options{Parts: parts(text("p"))}}, {[]string{"-", "a"}, api.Options{Parts: parts(text("-")), Files: []string{"a"}}}, {[]string{"", "-n"}, api.Options{Parts: parts(text("")), Files: []string{"-n"}}}, {[]string{"-nnEE", "-s", "-ss", "p"}, api.Options{Quiet: true, Ere: true, Apart: true, Parts: parts(text("p"))}}, {[]string{"-fx", "-e", "y", "z", "-n"}, api.Options{Parts: parts(file("x"), text("y")), Files: []string{"z", "-n"}}}, {[]string{"-e", "--", "--", "--"}, api.Options{Parts: parts(text("--")), Files: []string{"--"}}}, {[]string{"-f", "", "a"}, api.Options{Parts: parts(file("")), Files: []string{"a"}}},
		{[]string{"-efn"}, api.Options{Parts: parts(text("fn"))}}, {[]string{"-ep\xff", "\x00\n"}, api.Options{Parts: parts(text("p\xff")), Files: []string{"\x00\n"}}}, {[]string{"-e", "p", "--", "-n"}, api.Options{Parts: parts(text("p")), Files: []string{"-n"}}}, {[]string{"-e", "p", "-", "-n"}, api.Options{Parts: parts(text("p")), Files: []string{"-", "-n"}}}, {[]string{"-ine", "p"}, api.Options{InPlace: true, Apart: true, Quiet: true, Parts: parts(text("p"))}}, {[]string{"-eé", "-n", "x"}, api.Options{Quiet: true, Parts: parts(text("é")), Files: []string{"x"}}},
	} {
		o, e, about := Parse(c.args)
		if !same(o, c.want) || e != api.OK || about != "" {
			t.Errorf("%q: %v %d %q", c.args, o, e, about)
		}
	}
	for _, c := range []struct {
		args  []string
		err   api.Errno
		about string
	}{
		{nil, api.ErrUse, ""}, {[]string{"-n", "--"}, api.ErrUse, ""}, {[]string{"-ne"}, api.ErrUse, "e"}, {[]string{"-f"}, api.ErrUse, "f"}, {[]string{"-nz", "p"}, api.ErrOpt, "z"}, {[]string{"--x", "p"}, api.ErrOpt, "-"}, {[]string{"-n\xff"}, api.ErrOpt, "\xff"}, {[]string{"-é"}, api.ErrOpt, "é"}, {[]string{"-\xc3\xa9\xc3"}, api.ErrOpt, "é"}, {[]string{"-\xc3n"}, api.ErrOpt, "\xc3"}, {[]string{"-\xef\xbf\xbd"}, api.ErrOpt, "\xef\xbf\xbd"}, {[]string{"-\xef\xbf"}, api.ErrOpt, "\xef"}, {[]string{"-n"}, api.ErrUse, ""}, {[]string{"-N", "-f"}, api.ErrOpt, "N"}, {[]string{"-e", "p", "-ie"}, api.ErrUse, "e"}, {[]string{"-E-", "p"}, api.ErrOpt, "-"}, {[]string{"-n ", "p"}, api.ErrOpt, " "}, {[]string{"-\x00"}, api.ErrOpt, "\x00"}, {[]string{"-\U0001F600x"}, api.ErrOpt, "\U0001F600"},
	} {
		o, e, about := Parse(c.args)
		if !reflect.DeepEqual(o, api.Options{}) || e != c.err || about != c.about {
			t.Errorf("%q: %v %d %q", c.args, o, e, about)
		}
	}
}

// P28.2
func TestPrint(t *testing.T) {
	for _, c := range []struct {
		o    api.Options
		want []string
	}{
		{api.Options{Quiet: true, Parts: parts(text("p")), Files: []string{"a"}}, []string{"-n", "-e", "p", "--", "a"}}, {api.Options{InPlace: true, Apart: true, Parts: parts(file("x"))}, []string{"-i", "-f", "x", "--"}}, {api.Options{Quiet: true}, nil}, {api.Options{InPlace: true, Parts: parts(text("p"))}, nil}, {api.Options{}, nil}, {api.Options{InPlace: true, Apart: true, Files: []string{"a"}}, nil}, {api.Options{Quiet: true, Ere: true, Apart: true, Parts: parts(text(""), file(""), text("-"))}, []string{"-n", "-E", "-s", "-e", "", "-f", "", "-e", "-", "--"}},
	} {
		if got := Print(c.o); !slices.Equal(got, c.want) {
			t.Errorf("%v: %q", c.o, got)
		}
	}
}

// P28.3, and what follows: there and back.
func TestBack(t *testing.T) {
	r := rand.New(rand.NewSource(1))
	words := []string{"-n", "-E", "-s", "-i", "-e", "-f", "--", "-", "p", "a", "-nE", "-ep", "-ie", "-z", "", "-\xff", "é", "-é", "--n"}
	read := 0
	for range 30000 {
		var args []string
		for range r.Intn(7) {
			args = append(args, words[r.Intn(len(words))])
		}
		before := slices.Clone(args)
		o, e, about := Parse(args)
		if !slices.Equal(args, before) {
			t.Fatal("changed")
		}
		if e != api.OK {
			if !reflect.DeepEqual(o, api.Options{}) || about != "" && !strings.Contains(strings.Join(args, " "), about) {
				t.Fatalf("%q: %v %q", args, o, about)
			}
			continue
		}
		read++
		line := Print(o)
		back, e, about := Parse(line)
		if !same(back, o) || e != api.OK || about != "" || !slices.Equal(Print(back), line) {
			t.Fatalf("%q: %q: %v", args, line, back)
		}
		for i := range args {
			args[i] = "changed"
		}
		if !slices.Equal(Print(o), line) {
			t.Fatal("R5")
		}
	}
	if read < 5000 {
		t.Error("too few")
	}
}

// P28.4
func TestJoin(t *testing.T) {
	for _, c := range []struct {
		l    []string
		want string
	}{{[]string{"a", "b"}, "a\nb"}, {[]string{"", ""}, "\n"}, {nil, ""}, {[]string{"a"}, "a"}, {[]string{"a\n", "\xff", ""}, "a\n\n\xff\n"}, {[]string{""}, ""}} {
		if got := Join(c.l); string(got) != c.want {
			t.Errorf("%q: %q", c.l, got)
		}
	}
}
