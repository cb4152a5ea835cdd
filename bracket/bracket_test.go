package bracket

import (
	"math/rand"
	"testing"

	"galley/api"
	"galley/class"
	"galley/sample"
)

func of(s string) api.Class { return class.Of([]byte(s)...) }

// P4.1
func TestParse(t *testing.T) {
	digit, _ := class.Named("digit")
	upper, _ := class.Named("upper")
	for _, c := range []struct {
		in   string
		set  api.Class
		next int
	}{
		{"[abc]", of("abc"), 5}, {"[a-c]x", of("abc"), 5}, {"[^a]", class.Not(of("a")), 4}, {"[]a]", of("]a"), 4}, {"[^]]", class.Not(of("]")), 4}, {"[a^]", of("a^"), 4}, {`[\n]`, of(`\n`), 4},
		{"[-a]", of("-a"), 4}, {"[a-]", of("-a"), 4}, {"[--/]", of("-./"), 5}, {"[%--]", class.Range('%', '-'), 5}, {"[a-c-]", of("abc-"), 6}, {"[---]", of("-"), 5}, {"[]-a]", class.Range(']', 'a'), 5},
		{"[--]", of("-"), 4}, {"[-]", of("-"), 3}, {"[^-]", class.Not(of("-")), 4}, {"[^-a]", class.Not(of("-a")), 5}, {"[^--/]", class.Not(of("-./")), 6}, {"[^^]", class.Not(of("^")), 4},
		{"[[:digit:]x]", class.Or(digit, of("x")), 12}, {"[[=a=][.-.]]", of("a-"), 12}, {"[[.[.]-[.].]]", of(`[\]`), 13}, {"[[a]", of("[a"), 4}, {"[[.].]]", of("]"), 7},
		{"[[:digit:]-]", class.Or(digit, of("-")), 12}, {"[[:digit:][:upper:]]]", class.Or(digit, upper), 20}, {"[[=.=]]", of("."), 7}, {"[[...]]", of("."), 7}, {"[[===]]", of("="), 7},
		{"[a-[.c.]]", of("abc"), 9}, {"[[.a.]-c]", of("abc"), 9}, {"[x-x]", of("x"), 5}, {"[a[]", of("a["), 4}, {"[[]", of("["), 3}, {"[Z-[]", of("Z["), 5}, {"[:a:]", of(":a"), 5}, {"[\x00-\xff]", class.Range(0, 255), 5}, {"[^\x00-\xff]", api.Class{}, 6},
		{"[aa]]", of("a"), 4}, {"[[.-.]-/]", of("-./"), 9}, {"[+-[.-.]]", of("+,-"), 9},
	} {
		set, next, e := Parse(sample.Signs("p"+c.in), 1)
		if set != c.set || next != c.next+1 || e != api.OK {
			t.Errorf("%s: %v, %d, %d", c.in, class.Runs(set), next, e)
		}
	}
}

// P4.1
func TestFaults(t *testing.T) {
	for _, c := range []struct {
		in  string
		err api.Errno
		at  int
	}{
		{"[z-a]", api.ErrRange, 1}, {"[a-c-e]", api.ErrRange, 4}, {"[b-a-c]", api.ErrRange, 1}, {"[[:digit:]-z]", api.ErrRange, 1}, {"[a-[:digit:]]", api.ErrRange, 1}, {"[x[=a=]-c]", api.ErrRange, 2}, {"[a-[=b=]]", api.ErrRange, 1},
		{"[b-a", api.ErrRange, 1}, {"[a-[", api.ErrRange, 1}, {"[a--]", api.ErrRange, 1}, {"[x-b]", api.ErrRange, 1}, {"[a-c-]-e]", api.OK, 6}, {"[xa-c--]", api.ErrRange, 5}, {"[[:digit:]-[:word:]]", api.ErrRange, 1}, {"[[=a=]-[.ab.]]", api.ErrRange, 1}, {"[x-]y-a]", api.OK, 4},
		{"[a-b-c", api.ErrRange, 4}, {"[[.b.]-a]", api.ErrRange, 1},
		{"[[:word:]]", api.ErrClass, 1}, {"[x[.ab.]]", api.ErrClass, 2}, {"[[..]]", api.ErrClass, 1}, {"[a-[:word:]]", api.ErrClass, 3}, {"[[::]]", api.ErrClass, 1}, {"[[:]:]]", api.ErrClass, 1}, {"[[==]]", api.ErrClass, 1}, {"[[=ab", api.ErrClass, 1}, {"[[=a=a", api.ErrClass, 1}, {"[a-[.b.c", api.ErrClass, 3}, {"[[:Digit:]]", api.ErrClass, 1}, {"[[.a=]]", api.ErrClass, 1},
		{"[", api.ErrBrack, 0}, {"[]", api.ErrBrack, 0}, {"[^]", api.ErrBrack, 0}, {"[^", api.ErrBrack, 0}, {"[a", api.ErrBrack, 0}, {"[a-", api.ErrBrack, 0}, {"[[:digit:]", api.ErrBrack, 0}, {"[[:digit", api.ErrBrack, 0}, {"[[:digit:", api.ErrBrack, 0}, {"[[.a", api.ErrBrack, 0}, {"[[.", api.ErrBrack, 0}, {"[[.a.", api.ErrBrack, 0}, {"[a[=b=", api.ErrBrack, 0}, {"[[", api.ErrBrack, 0}, {"[[:digit:]-", api.ErrBrack, 0}, {"[a-c-", api.ErrBrack, 0}, {"[-", api.ErrBrack, 0}, {"[--", api.ErrBrack, 0}, {"[Z-[", api.ErrBrack, 0}, {"[[:]", api.ErrBrack, 0}, {"[a-[.b", api.ErrBrack, 0}, {"[a-[:digit", api.ErrBrack, 0},
	} {
		set, at, e := Parse(sample.Signs("p["+c.in), 2)
		if c.err != api.OK && set != (api.Class{}) || at != c.at+2 || e != c.err {
			t.Errorf("%s: %d at %d", c.in, e, at)
		}
	}
	for _, at := range []int{-1, 0, 3, 4, 99} {
		if set, next, e := Parse(sample.Signs("x[]"), at); set != (api.Class{}) || next != 0 || e != api.ErrArg {
			t.Errorf("at %d: %d, %d", at, next, e)
		}
	}
	l := sample.Signs("[a]")
	l[0].Plain = true
	if _, next, e := Parse(l, 0); next != 0 || e != api.ErrArg {
		t.Error("a plain [")
	}
	if _, next, e := Parse(nil, 0); next != 0 || e != api.ErrArg {
		t.Error("no marks")
	}
}

// P4.1: plain marks; those behind a ! are plain.
func TestPlain(t *testing.T) {
	marks := func(s string) []api.Mark {
		var l []api.Mark
		for i := 0; i < len(s); i++ {
			plain := s[i] == '!'
			if plain {
				i++
			}
			l = append(l, api.Mark{Byte: s[i], Plain: plain})
		}
		return l
	}
	digit, _ := class.Named("digit")
	for _, c := range []struct {
		in  string
		set api.Class
		err api.Errno
		at  int
	}{
		{"[!^a]", of("^a"), 0, 4}, {"[!]a]", of("]a"), 0, 4}, {"[!-x-z]", of("-xyz"), 0, 6}, {"[a!-z]", of("a-z"), 0, 5}, {"[a!]b]", of("a]b"), 0, 5}, {"[!]]", of("]"), 0, 3},
		{"[![:digit:]]", of("[:digt"), 0, 10}, {"[[!:digit:]]", of("[:digt"), 0, 10}, {"[[:digit:!]:]]", api.Class{}, api.ErrClass, 1}, {"[[:di!git:]]", digit, 0, 11}, {"[[.!..]]", of("."), 0, 7}, {"[[.a!.]]", api.Class{}, api.ErrClass, 1},
		{"[a!-c]", of("a-c"), 0, 5}, {"[a-!]]", api.Class{}, api.ErrRange, 1}, {"[A-!]]", class.Range('A', ']'), 0, 5}, {"[ax!-b]", of("ax-b"), 0, 6}, {"[a!]", api.Class{}, api.ErrBrack, 0}, {"[+-!-]", of("+,-"), 0, 5}, {"[a-!--c]", api.Class{}, api.ErrRange, 1},
	} {
		set, at, e := Parse(marks(c.in), 0)
		if set != c.set || at != c.at || e != c.err {
			t.Errorf("%s: %v, %d, %d", c.in, class.Runs(set), at, e)
		}
	}
}

// P4.2
func TestPrint(t *testing.T) {
	for want, c := range map[string]api.Class{"[a]": of("a"), "[[.-.]a-c]": of("abc-"), "[^\x00-\x09\x0b-`b-\xff]": of("\na"), "[[.^.]]": of("^"), "[\x00-\xff]": class.Range(0, 255), "[^\x00-\xff]": {},
		"[^a]": class.Not(of("a")), "[[.[.]-[.^.]]": of(`[\]^`), "[,-[.-.]]": of(",-"), "[^\x00-\x09\x0b-\xff]": of("\n"), "[\x00-\x09\x0b-\xff]": class.Not(of("\n")), "[a-bd]": of("abd")} {
		if got := sample.Text(Print(c)); got != want {
			t.Errorf("%q, not %q", got, want)
		}
	}
}

// P4.3
func TestBack(t *testing.T) {
	r := rand.New(rand.NewSource(1))
	check := func(c api.Class) {
		l := Print(c)
		for _, m := range l {
			if m.Plain || m.Byte == '\n' {
				t.Fatalf("%q", sample.Text(l))
			}
		}
		for _, behind := range []string{"", "]", "-]", "x", "[:"} {
			set, next, e := Parse(append(Print(c), sample.Signs(behind)...), 0)
			if set != c || next != len(l) || e != api.OK {
				t.Fatalf("%q: %v, %d, %d", sample.Text(l), class.Runs(set), next, e)
			}
		}
	}
	for b := range 256 {
		check(class.Of(byte(b)))
		check(class.Not(class.Of(byte(b))))
	}
	for range 5000 {
		var c api.Class
		for range r.Intn(6) {
			lo := byte(r.Intn(256))
			if r.Intn(2) == 0 {
				lo = "[]-^\n,.Z_"[r.Intn(9)]
			}
			c = class.Or(c, class.Range(lo, lo|byte(r.Intn(4))))
		}
		check(c)
		check(class.Not(c))
	}
}

// What follows: each beginning of a bracket is ErrBrack at its [, but for one that ends in - and [.
func TestBeginnings(t *testing.T) {
	r := rand.New(rand.NewSource(2))
	n := 0
	for range 300000 {
		s := "["
		for range 1 + r.Intn(9) {
			s += []string{"a", "b", "-", "]", "^", "[", "[.", ".]", "[:digit:]", "[=", "=]", ":"}[r.Intn(12)]
		}
		l := sample.Signs(s)
		_, next, e := Parse(l, 0)
		if e != api.OK {
			continue
		}
		n++
		for k := 1; k < next; k++ {
			_, at, e := Parse(l[:k], 0)
			if (e != api.ErrBrack || at != 0) && !(e == api.ErrRange && s[k-2:k] == "-[") {
				t.Fatalf("%s of %s: %d at %d", s[:k], s, e, at)
			}
		}
	}
	if n < 1000 {
		t.Error("too few brackets")
	}
}

// R5
func TestUnchanged(t *testing.T) {
	l := append(make([]api.Mark, 0, 30), sample.Signs("[a-c]")...)
	before := sample.Text(l[:30])
	Parse(l, 0)
	if sample.Text(l[:30]) != before {
		t.Error("changed")
	}
	a, b := Print(of("a")), Print(of("a"))
	a[0].Byte = 'x'
	if sample.Text(b) != "[a]" {
		t.Error("shared")
	}
}
