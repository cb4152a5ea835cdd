package words

import (
	"math/rand"
	"slices"
	"strconv"
	"strings"
	"testing"

	"galley/api"
	"galley/sample"
)

// P19.1, P19.2, P19.4
func TestNumber(t *testing.T) {
	w := New([]byte("12p"))
	if n, e := w.Number(-1); n != 0 || e != api.ErrArg || w.At() != 0 {
		t.Error("below 0")
	}
	if n, e := w.Number(99); n != 12 || e != api.OK || w.At() != 2 {
		t.Errorf("%d %d", n, e)
	}
	if b, ok := w.Peek(); b != 'p' || !ok || w.At() != 2 {
		t.Error("Peek")
	}
	if n, e := w.Number(99); n != 0 || e != api.ErrAddr || w.At() != 2 {
		t.Error("no digit")
	}
	if b, ok := w.Take(); b != 'p' || !ok || w.At() != 3 {
		t.Error("Take")
	}
	if b, ok := w.Take(); b != 0 || ok || w.At() != 3 {
		t.Error("Take at the end")
	}
	if b, ok := w.Peek(); b != 0 || ok {
		t.Error("Peek at the end")
	}
	if n, e := w.Number(9); n != 0 || e != api.ErrAddr {
		t.Error("Number at the end")
	}
	for _, c := range []struct {
		text string
		most int
		n    int
		ok   bool
	}{
		{"007", 7, 7, true}, {"007", 6, 0, false}, {"99999999999999999999", 1<<63 - 1, 0, false}, {"9223372036854775807", 1<<63 - 1, 1<<63 - 1, true}, {"9223372036854775808", 1<<63 - 1, 0, false}, {"0", 0, 0, true}, {"1", 0, 0, false}, {"00", 0, 0, true}, {"10", 9, 0, false}, {"10", 10, 10, true}, {"19", 18, 0, false}, {"5", 3, 0, false}, {"2147483647", 2147483647, 2147483647, true}, {"2147483648", 2147483647, 0, false}, {"-1", 9, 0, false}, {"00000000000000000000000000012x", 12, 12, true}, {"13", 12, 0, false}, {"21", 12, 0, false},
	} {
		w := New([]byte(c.text))
		n, e := w.Number(c.most)
		if n != c.n || (e == api.OK) != c.ok || e != api.OK && (e != api.ErrAddr || w.At() != 0) {
			t.Errorf("%s of %d: %d %d", c.text, c.most, n, e)
		}
	}
	for most := range 130 {
		for n := range 140 {
			got, e := New([]byte(strconv.Itoa(n) + ";")).Number(most)
			if (e == api.OK) != (n <= most) || e == api.OK && got != n {
				t.Fatalf("%d of %d: %d %d", n, most, got, e)
			}
		}
	}
}

// P19.3, P19.6
func TestSkip(t *testing.T) {
	for _, c := range []struct {
		text, set string
		n         int
	}{{"; ;a", " ;", 3}, {"\xe9x", "é", 1}, {"\xe9", "\xe9", 0}, {"\xc3\xa9", "é", 0}, {"abc", "", 0}, {"", "a", 0}, {"aab", "a", 2}, {"\xfd", "\ufffd", 0}, {"\x00\x00", "\x00", 2}, {"\xff\x80", "ÿ\u0080€", 2}} {
		w := New([]byte(c.text))
		if n := w.Skip(c.set); n != c.n || w.At() != c.n {
			t.Errorf("%q %q: %d", c.text, c.set, n)
		}
	}
	w := New([]byte("ab\ncd"))
	if s := string(w.Row()); s != "ab" || w.At() != 2 {
		t.Error(s)
	}
	if s := w.Row(); len(s) != 0 || w.At() != 2 {
		t.Error("again")
	}
	w.Take()
	if s := string(w.Row()); s != "cd" || w.At() != 5 {
		t.Error(s)
	}
	if s := w.Row(); len(s) != 0 || w.At() != 5 {
		t.Error("at the end")
	}
}

// P19.5
func TestPart(t *testing.T) {
	for _, c := range []struct {
		text  string
		delim byte
		ends  bool
		want  string
		at    int
	}{
		{`a\/b/x`, '/', false, "a\x01/b", 5}, {`\n\\/`, '/', false, `\n\\`, 5}, {"a[/]/", '/', false, "a[", 3}, {"a\\\nb/", '/', true, "a\\\nb", 5}, {"|", '|', false, "", 1}, {"//", '/', false, "", 1}, {`\\/x`, '/', false, `\\`, 3}, {`\\\//`, '/', false, "\\\\\x01/", 5}, {"nx\\nn", 'n', false, "", 1}, {"x\\nyn", 'n', false, "x\x01ny", 5}, {"a\x00b", 0, false, "a", 2}, {"\\\xff\xff", 0xff, false, "\x01\xff", 3}, {"a b ", ' ', false, "a", 2},
	} {
		w := New([]byte(c.text))
		l, e := w.Part(c.delim, c.ends)
		if !slices.Equal(l, sample.Marks(c.want)) || e != api.OK || w.At() != c.at {
			t.Errorf("%q: %v %d at %d", c.text, l, e, w.At())
		}
	}
	for _, c := range []struct {
		text  string
		delim byte
		ends  bool
	}{{"ab", '/', false}, {"a\\\nb/", '/', false}, {"a/", '\\', false}, {"a\n", '\n', true}, {"a\nb/", '/', true}, {"a\nb/", '/', false}, {`a\`, '/', true}, {`a\/`, '/', false}, {"", '/', false}, {`a\\`, '/', false}, {`\`, '\\', false}} {
		w := New([]byte(c.text))
		if l, e := w.Part(c.delim, c.ends); l != nil || e != api.ErrPart || w.At() != 0 {
			t.Errorf("%q: %v %d at %d", c.text, l, e, w.At())
		}
	}
}

// P19.7
func TestText(t *testing.T) {
	for in, c := range map[string]struct {
		want string
		at   int
	}{" \\\nx\\y\\\nz\np": {"xy\nz", 10}, "\\\n\n": {"", 3}, "\\\na": {"a", 3}, "\t \\\n a\\\\b\n\n": {" a\\b", 10}, "\\\n\\\n": {"\n", 4}, "\\\na\n": {"a", 4}, "\\\n\\a": {"a", 4}, "\\\n\\\\\n": {"\\", 5}, "\\\n\\ a": {" a", 5}} {
		w := New([]byte(in))
		b, e := w.Text()
		if string(b) != c.want || e != api.OK || w.At() != c.at {
			t.Errorf("%q: %q %d at %d", in, b, e, w.At())
		}
	}
	for _, in := range []string{"\\\n", "\\\na\\", "x", "", " ", "\\", "\\x\n", " \\ \na", "\n\\\na", "\\\n\\", "x\\\na"} {
		w := New([]byte(in))
		if b, e := w.Text(); b != nil || e != api.ErrText || w.At() != 0 {
			t.Errorf("%q: %q %d at %d", in, b, e, w.At())
		}
	}
}

// P19.8
func TestEnd(t *testing.T) {
	for in, c := range map[string]struct {
		e  api.Errno
		at int
	}{"  ;p": {api.OK, 3}, "}": {api.OK, 0}, " x": {api.ErrMore, 1}, "": {api.OK, 0}, " \t": {api.OK, 2}, " \n\n": {api.OK, 2}, "\t#": {api.OK, 1}, ";;": {api.OK, 1}, "\r": {api.ErrMore, 0}, " {": {api.ErrMore, 1}} {
		w := New([]byte(in))
		if e := w.End(); e != c.e || w.At() != c.at {
			t.Errorf("%q: %d at %d", in, e, w.At())
		}
	}
}

// What follows: what Part reads, written again, is what stood there; each call hangs on the text from the place on alone.
func TestFollows(t *testing.T) {
	r := rand.New(rand.NewSource(1))
	read := 0
	for range 50000 {
		var b []byte
		for range r.Intn(10) {
			b = append(b, "\\/\nab"[r.Intn(5)])
		}
		ends := r.Intn(2) == 0
		w := New(b)
		l, e := w.Part('/', ends)
		ahead := New(append([]byte("#;"), b...))
		ahead.Skip("#;x")
		if ahead.At() == 2 {
			m, e2 := ahead.Part('/', ends)
			if e2 != e || !slices.Equal(l, m) || e == api.OK && ahead.At() != w.At()+2 {
				t.Fatalf("%q: the text ahead counts", b)
			}
		}
		if e != api.OK {
			continue
		}
		read++
		again := ""
		for _, m := range l {
			if m.Plain {
				again += "\\"
			}
			again += string(rune(m.Byte))
		}
		if again+"/" != string(b[:w.At()]) {
			t.Fatalf("%q: %q", b, again)
		}
	}
	if read < 5000 {
		t.Error("too few")
	}
}

// P19.1, R3, R5
func TestNone(t *testing.T) {
	for _, w := range []*Words{nil, {}} {
		_, peek := w.Peek()
		_, take := w.Take()
		n, e := w.Number(3)
		l, e2 := w.Part('/', true)
		b, e3 := w.Text()
		if w.At() != 0 || peek || take || w.Skip("a") != 0 || n != 0 || e != api.ErrArg || l != nil || e2 != api.ErrArg || w.Row() != nil || b != nil || e3 != api.ErrArg || w.End() != api.ErrArg {
			t.Error("none")
		}
	}
	text := []byte("abc")
	w := New(text)
	text[0] = 'x'
	row := w.Row()
	row[1] = 'x'
	w = New([]byte(strings.Repeat("a", 3)))
	if string(row) != "axc" || string(w.Row()) != "aaa" {
		t.Error("R5")
	}
}
