package quote

import (
	"bytes"
	"math/rand"
	"strconv"
	"testing"
	"unicode/utf8"

	"galley/api"
)

// plainShow says P2.1 once more, code point by code point.
func plainShow(b []byte) string {
	s := "\""
	for len(b) > 0 {
		r, n := utf8.DecodeRune(b)
		whole := !(r == utf8.RuneError && n == 1)
		if whole && r >= 32 && !(r >= 127 && r <= 159) && r != 34 && r != 92 {
			s += string(b[:n])
			b = b[n:]
			continue
		}
		for _, x := range b[:n] {
			switch x {
			case 34:
				s += "\\\""
			case 92:
				s += "\\\\"
			case 10:
				s += "\\n"
			case 9:
				s += "\\t"
			case 13:
				s += "\\r"
			default:
				h := strconv.FormatInt(int64(x)+256, 16)
				s += "\\x" + h[1:]
			}
		}
		b = b[n:]
	}
	return s + "\""
}

// some bytes, among them many near the edges of UTF-8.
func some(r *rand.Rand) []byte {
	edges := []string{"\x00", "\x1f", " ", "~", "\x7f", "\u0080", "\u009f", "\u00a0", "\u07ff", "\u0800", "\ud7ff", "\ue000", "\ufffd", "\uffff", "\U00010000", "\U0010ffff",
		"\xc0\x80", "\xed\xa0\x80", "\xf4\x90\x80\x80", "\xef\xbf", "\xef", "\xe0\x80\x80", "\xf0\x80\x80\x80", "\xbf", "\xff", "\"", "\\", "\n", "\t", "\r", "x", "n", "a0"}
	var b []byte
	for range r.Intn(6) {
		if r.Intn(4) == 0 {
			b = append(b, byte(r.Intn(256)))
		} else {
			b = append(b, edges[r.Intn(len(edges))]...)
		}
	}
	return b
}

// P2.1
func TestShow(t *testing.T) {
	for in, want := range map[string]string{
		"": `""`, "a\"\\\n": `"a\"\\\n"`, "\t\r": `"\t\r"`, "é": `"é"`, "\xc3": `"\xc3"`, "\xc3(": `"\xc3("`, "\x00\x1b\x7f": `"\x00\x1b\x7f"`,
		"\xc2\x85": `"\xc2\x85"`, "\xef\xbf\xbd": "\"\xef\xbf\xbd\"", "\xed\xa0\x80": `"\xed\xa0\x80"`, "\xef\xbf": `"\xef\xbf"`,
		"\xc2\x9f\xc2\xa0": "\"\\xc2\\x9f\xc2\xa0\"", "\xf4\x90\x80\x80": `"\xf4\x90\x80\x80"`, "\xc0\xaf": `"\xc0\xaf"`, " ~": `" ~"`, "\U0010ffff": "\"\U0010ffff\""} {
		if got := Show([]byte(in)); got != want {
			t.Errorf("%q: %s, not %s", in, got, want)
		}
	}
	for x := 0; x < 256; x++ {
		for y := -1; y < 256; y++ {
			b := []byte{byte(x)}
			if y >= 0 {
				b = append(b, byte(y))
			}
			if Show(b) != plainShow(b) {
				t.Fatalf("%x: %s", b, Show(b))
			}
		}
	}
	r := rand.New(rand.NewSource(1))
	for range 20000 {
		if b := some(r); Show(b) != plainShow(b) {
			t.Fatalf("%x: %s", b, Show(b))
		}
	}
}

// P2.2
func TestUnshow(t *testing.T) {
	for _, s := range []string{`"\x61"`, `"\xC3"`, `"\xc3\xa9"`, `"a`, ``, `""x`, `"`, `a"`, `"""`, `"\"`, `"\x0a"`, `"\x0"`, `"\x"`, `"\q"`, `"\a"`, `"\x0g"`, "\"\n\"", "\"\xc3\"", "\"\u0085\"", `"a"b"`, `x"a"`, `"a" `} {
		if b, ok := Unshow(s); ok || b != nil {
			t.Errorf("%s: %x", s, b)
		}
	}
	for s, want := range map[string]string{`""`: "", `"a\n\t\r\"\\"`: "a\n\t\r\"\\", `"\xc3("`: "\xc3(", `"\x00é"`: "\x00é"} {
		if b, ok := Unshow(s); !ok || string(b) != want {
			t.Errorf("%s: %x %v", s, b, ok)
		}
	}
	r := rand.New(rand.NewSource(2))
	for range 20000 {
		b := some(r)
		s := Show(b)
		if back, ok := Unshow(s); !ok || !bytes.Equal(back, b) {
			t.Fatalf("%x: %s: %x", b, s, back)
		}
		// A text with a byte changed is read only if it is Show of what it is read as.
		c := []byte(s)
		c[r.Intn(len(c))] = "\"\\nx0aé"[r.Intn(8)]
		if back, ok := Unshow(string(c)); ok && plainShow(back) != string(c) {
			t.Fatalf("%q: %x", c, back)
		}
	}
}

// P2.3
func TestWord(t *testing.T) {
	want := map[int]string{0: "no error", 1: "bad argument", 2: "too long", 20: "bad name", 21: "no such file", 22: "no room", 23: "input or output failed", 24: "the power is gone",
		30: "bad range", 31: "no such class", 32: "bracket not closed", 40: "bad escape", 41: "unpaired parenthesis", 42: "nothing to repeat", 43: "bad count", 44: "no such group", 45: "empty regex", 46: "nested too deep",
		47: "too many groups", 48: "too heavy", 49: "no regex", 50: "cannot be spelled", 51: "too many states", 52: "fuel is gone", 60: "bad table", 61: "bad replacement", 62: "space is full",
		70: "not closed", 71: "bad address", 72: "bad command", 73: "no text", 74: "bad flag", 75: "bad label", 76: "unpaired brace", 77: "bad file", 78: "more than a command",
		80: "steps are gone", 81: "cannot write", 90: "bad option", 91: "bad use", 100: "bad line"}
	for e := -120; e <= 200; e++ {
		w, ok := want[e]
		if !ok {
			w = "error " + strconv.Itoa(e)
		}
		if got := Word(api.Errno(e)); got != w {
			t.Errorf("%d: %s", e, got)
		}
	}
	if Word(-1<<63) != "error -9223372036854775808" {
		t.Error(Word(-1 << 63))
	}
}

// P2.3
func TestLine(t *testing.T) {
	for want, n := range map[string]api.Note{
		`galley: no such file: "a b"`:         {Err: 21, At: -1, Name: "a b"},
		`galley: unpaired parenthesis at 7`:   {Err: 41, At: 7},
		`galley: no error at 0: "\n"`:         {Name: "\n"},
		`galley: error -4`:                    {Err: -4, At: -9},
		`galley: bad command at 12: "\xff\""`: {Err: 72, At: 12, Name: "\xff\""},
	} {
		if got := Line(n); got != want {
			t.Errorf("%s, not %s", got, want)
		}
	}
}

// P2.4
func TestMemory(t *testing.T) {
	if Show(nil) != Show([]byte{}) {
		t.Error("nil")
	}
	in := append(make([]byte, 0, 9), "a\n"...)
	Show(in)
	if string(in[:9]) != "a\n\x00\x00\x00\x00\x00\x00\x00" {
		t.Errorf("%q", in[:9])
	}
	b, _ := Unshow(`"ab"`)
	c, _ := Unshow(`"ab"`)
	b[0] = 'x'
	if string(c) != "ab" {
		t.Error("shared")
	}
}
