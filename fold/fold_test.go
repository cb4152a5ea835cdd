package fold

import (
	"bytes"
	"math/rand"
	"strconv"
	"strings"
	"testing"
)

// P18.1
func TestRow(t *testing.T) {
	for _, c := range []struct {
		in    string
		width int
		want  string
	}{
		{"a\tb", 69, "a\\tb$\n"}, {"\x07\\\x00\xff\n\x1b", 69, "\\a\\\\\\000\\377\\n\\033$\n"}, {"", 69, "$\n"}, {"abcdef", 4, "abcd\\\nef$\n"}, {"abcdef", -3, "abcd\\\nef$\n"}, {"abc\x01", 5, "abc\\\n\\001$\n"}, {"abcd", 4, "abcd$\n"}, {"abc\t", 4, "abc\\\n\\t$\n"}, {"\x08\x0b\x0c\r", 9, "\\b\\v\\f\\r$\n"},
		{" ~\x7f\x80$", 99, " ~\\177\\200$$\n"}, {"abcde", 5, "abcde$\n"}, {"\x01\x02", 4, "\\001\\\n\\002$\n"}, {"\x01\x02", 7, "\\001\\\n\\002$\n"}, {"\x01\x02", 8, "\\001\\002$\n"}, {"", -1 << 63, "$\n"},
	} {
		if got := Row([]byte(c.in), c.width); string(got) != c.want {
			t.Errorf("%q, %d: %q", c.in, c.width, got)
		}
	}
}

// P18.1: each byte's piece.
func TestPieces(t *testing.T) {
	special := map[byte]string{92: `\\`, 7: `\a`, 8: `\b`, 9: `\t`, 10: `\n`, 11: `\v`, 12: `\f`, 13: `\r`}
	for b := range 256 {
		want, ok := special[byte(b)]
		if !ok {
			want = string(rune(b))
			if b < 32 || b > 126 {
				o := "00" + strconv.FormatInt(int64(b), 8)
				want = `\` + o[len(o)-3:]
			}
		}
		if got := Row([]byte{byte(b)}, 9); string(got) != want+"$\n" {
			t.Errorf("%d: %q", b, got)
		}
	}
}

// P18.2
func TestBack(t *testing.T) {
	for _, s := range []string{"", "$", "a$", "a\n", "\t$\n", "\\q$\n", "\\01$\n", "\\400$\n", "\\141$\n", "\\$\n", "a\\\nb$\n", "abcd\\\ne$\n\n", "abcd\\\nefghi$\n", "abcd\\\n$\n", "\\007$\n", "\\012$\n", "abc\\\nd$\n", "a\nb$\n", "$\n$\n", "\\018$\n", "\\x41$\n", "\x7f$\n", "\xff$\n", "abcde\\\nabcd\\\ne$\n", "\\777$\n", "a$\nb"} {
		if b, ok := Back([]byte(s)); b != nil || ok {
			t.Errorf("%q: %q", s, b)
		}
	}
	for s, want := range map[string]string{"$\n": "", "a$$\n": "a$", "abcd\\\ne$\n": "abcde", "\\\\$\n": `\`, "\\\\\\\\\\\n\\\\$\n": `\\\`, "abc\\\n\\t$\n": "abc\t"} {
		if b, ok := Back([]byte(s)); string(b) != want || !ok {
			t.Errorf("%q: %q %v", s, b, ok)
		}
	}
}

// What follows: there and back; whatever is read back is Row of it at some width; rows are as wide as may be.
func TestFollows(t *testing.T) {
	r := rand.New(rand.NewSource(1))
	for range 20000 {
		b := make([]byte, r.Intn(12))
		for i := range b {
			b[i] = "ab\\\n\t\x01\xff$"[r.Intn(8)]
		}
		width := r.Intn(12) - 1
		before := bytes.Clone(b)
		row := Row(b, width)
		if back, ok := Back(row); !ok || !bytes.Equal(back, b) || !bytes.Equal(b, before) {
			t.Fatalf("%q, %d: %q: %q", b, width, row, back)
		}
		for _, l := range strings.Split(strings.TrimSuffix(string(row), "\n"), "\n") {
			if len(l) > max(width, 4)+1 {
				t.Fatalf("%q: too wide", row)
			}
		}
		c := bytes.Clone(row)
		c[r.Intn(len(c))] = "a\\\n$0n1t"[r.Intn(8)]
		back, ok := Back(c)
		found := false
		for w := 4; w < 60 && ok; w++ {
			found = found || bytes.Equal(Row(back, w), c)
		}
		if ok != found {
			t.Fatalf("%q: %q", c, back)
		}
	}
}

// R5
func TestMemory(t *testing.T) {
	row := Row([]byte("abc"), 69)
	back, _ := Back(row)
	back[0] = 'x'
	if string(row) != "abc$\n" {
		t.Error("shared")
	}
}
