package table

import (
	"bytes"
	"math/rand"
	"testing"

	"galley/api"
	"galley/sample"
)

func made(t *testing.T, from, to string) api.Table {
	t.Helper()
	x, e := New([]byte(from), []byte(to))
	if e != api.OK {
		t.Fatalf("%q %q: %d", from, to, e)
	}
	return x
}

// P15.1
func TestNew(t *testing.T) {
	x := made(t, "ab", "xy")
	for b := range 256 {
		want := byte(b)
		switch b {
		case 'a':
			want = 'x'
		case 'b':
			want = 'y'
		}
		if x[b] != want {
			t.Errorf("%d: %d", b, x[b])
		}
	}
	for _, c := range [][2]string{{"ab", "x"}, {"aa", "xy"}, {"", "x"}, {"aba", "aba"}, {"\xff\xff", "ab"}} {
		if x, e := New([]byte(c[0]), []byte(c[1])); e != api.ErrTable || x != (api.Table{}) {
			t.Errorf("%q: %d", c, e)
		}
	}
	if made(t, "", "") != made(t, "a", "a") || made(t, "\x00\xff", "\xff\x00")[0] != 255 {
		t.Error("edges")
	}
}

// P15.2
func TestParse(t *testing.T) {
	for _, c := range [][4]string{{`\n\\`, "x;", "\n\\", "x;"}, {"\x01\\", "x", `\`, "x"}, {"", "", "", ""}, {"ab", "\\n\x01n", "ab", "\nn"}, {"\x01/a", "b\x01/", "/a", "b/"}, {"\n", "a", "\n", "a"}, {`\\n`, "ab", `\n`, "ab"}} {
		x, e := Parse(sample.Marks(c[0]), sample.Marks(c[1]))
		if e != api.OK || x != made(t, c[2], c[3]) {
			t.Errorf("%q: %d", c, e)
		}
	}
	for _, c := range [][2]string{{`\a`, "xy"}, {`\`, "x"}, {"a", `\`}, {"\\\x01n", "xy"}, {"\\\x01\\", "x"}, {"ab", "x"}, {"aa", "xy"}, {`\na`, "x"}, {`\n\n`, "xy"}, {`\nb`, "xyz"}, {"xy", `\a`}, {"\\\x01/", "ab"}} {
		if x, e := Parse(sample.Marks(c[0]), sample.Marks(c[1])); e != api.ErrTable || x != (api.Table{}) {
			t.Errorf("%q: %d", c, e)
		}
	}
}

// P15.3
func TestApply(t *testing.T) {
	x := made(t, "ab", "xy")
	in := []byte("abcab")
	out := Apply(&x, in)
	if string(out) != "xycxy" || string(in) != "abcab" || len(Apply(&x, nil)) != 0 {
		t.Errorf("%q", out)
	}
	out[0] = '!'
	if string(Apply(&x, in)) != "xycxy" {
		t.Error("R5")
	}
	turn := made(t, "ab", "ba")
	if both := Then(&turn, &turn); both != made(t, "", "") {
		t.Error("Then")
	}
	chain, chain2 := made(t, "a", "b"), made(t, "b", "c")
	if both := Then(&chain, &chain2); both != made(t, "ab", "cc") {
		t.Error("Then")
	}
	y := made(t, "cab", "cyx")
	if from, to := Print(&y); string(from) != "ab" || string(to) != "yx" {
		t.Errorf("%q %q", from, to)
	}
	stay := made(t, "", "")
	if from, to := Print(&stay); from != nil || to != nil {
		t.Error("all stay")
	}
	if from, to := Print(nil); from != nil || to != nil || Apply(nil, in) != nil || Then(nil, &x) != (api.Table{}) || Then(&x, nil) != (api.Table{}) {
		t.Error("nil")
	}
	zero := api.Table{}
	if from, to := Print(&zero); len(from) != 255 || len(to) != 255 || from[0] != 1 || string(Apply(&zero, []byte("ab"))) != "\x00\x00" {
		t.Error("zero")
	}
}

// What follows.
func TestFollows(t *testing.T) {
	r := rand.New(rand.NewSource(1))
	some := func() api.Table {
		var x api.Table
		r.Read(x[:])
		return x
	}
	for range 200 {
		x, y, z := some(), some(), some()
		text := make([]byte, 40)
		r.Read(text)
		xy, yz := Then(&x, &y), Then(&y, &z)
		if !bytes.Equal(Apply(&xy, text), Apply(&y, Apply(&x, text))) || Then(&xy, &z) != Then(&x, &yz) {
			t.Fatal("Then")
		}
		from, to := Print(&x)
		if back, e := New(from, to); e != api.OK || back != x {
			t.Fatal("Print")
		}
		for i := range from {
			if from[i] == to[i] || i > 0 && from[i] <= from[i-1] {
				t.Fatal("rows")
			}
		}
	}
}
