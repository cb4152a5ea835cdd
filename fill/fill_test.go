package fill

import (
	"math/rand"
	"reflect"
	"strings"
	"testing"

	"galley/api"
	"galley/sample"
)

func text(s string) api.Piece { return api.Piece{Group: -1, Text: []byte(s)} }
func group(n int) api.Piece   { return api.Piece{Group: n} }

func pieces(l ...api.Piece) []api.Piece { return l }

// P16.1
func TestParse(t *testing.T) {
	for in, want := range map[string][]api.Piece{
		"a&b": pieces(text("a"), group(0), text("b")), `\1\n\&\\`: pieces(group(1), text("\n&\\")), `\0`: pieces(text("0")), "": nil, "\x01&": pieces(text("&")), "\\\x011": pieces(text("1")), "\x01\\1": pieces(text(`\1`)), "\\\x01n": pieces(text("n")),
		`\9&&\2`: pieces(group(9), group(0), group(0), group(2)), "a\\\nb": pieces(text("a\nb")), `\a\/`: pieces(text("a/")), `\\1`: pieces(text(`\1`)), "\n": pieces(text("\n")), "\\\x01&": pieces(text("&")), "\\\x01\\a": pieces(text("\\a")),
	} {
		if got, e, at := Parse(sample.Marks(in)); !reflect.DeepEqual(got, want) || e != api.OK || at != 0 {
			t.Errorf("%q: %v %d %d", in, got, e, at)
		}
	}
	for in, want := range map[string]int{`x\`: 1, `\`: 0, `\\\`: 2, "\x01a&\\": 2} {
		if got, e, at := Parse(sample.Marks(in)); got != nil || e != api.ErrFill || at != want {
			t.Errorf("%q: %d at %d", in, e, at)
		}
	}
}

// P16.2
func TestMost(t *testing.T) {
	for i, c := range []struct {
		p      []api.Piece
		most   int
		shaped bool
	}{
		{pieces(group(2), group(1)), 2, true}, {pieces(group(0)), 0, true}, {nil, 0, true}, {pieces(text("a")), 0, true}, {pieces(text("")), 0, false}, {pieces(text("a"), text("b")), 0, false}, {pieces(group(10)), 10, false}, {pieces(api.Piece{Group: 1, Text: []byte("a")}), 1, false},
		{pieces(group(-2)), 0, false}, {pieces(text("a"), group(9), text("b")), 9, true}, {pieces(api.Piece{Group: 1, Text: []byte{}}), 1, true}, {pieces(group(300), group(-9)), 300, false}, {pieces(api.Piece{Group: -1}), 0, false}, {pieces(api.Piece{Group: 0, Text: []byte("a")}), 0, false},
	} {
		if Most(c.p) != c.most || Shaped(c.p) != c.shaped {
			t.Errorf("%d: %d %v", i, Most(c.p), Shaped(c.p))
		}
		if l, e := Print(c.p); (e == api.OK) != c.shaped || e != api.OK && (e != api.ErrFill || l != nil) {
			t.Errorf("%d: Print: %d", i, e)
		}
	}
}

// P16.3
func TestPrint(t *testing.T) {
	l, e := Print(pieces(text("a\n&"), group(3), group(0), text(`\/1`)))
	if e != api.OK || sample.Text(l) != `a\n\&\3&\\/1` {
		t.Errorf("%q %d", sample.Text(l), e)
	}
	if l, e := Print(nil); l != nil || e != api.OK {
		t.Error("nothing")
	}
}

// P16.4, P16.5
func TestExpand(t *testing.T) {
	p, _, _ := Parse(sample.Marks(`<\1|\2>&`))
	span := func(l ...int) []api.Span {
		var out []api.Span
		for i := 0; i < len(l); i += 2 {
			out = append(out, api.Span{From: l[i], To: l[i+1]})
		}
		return out
	}
	for i, c := range []struct {
		p    []api.Piece
		l    []api.Span
		want string
		long int
	}{
		{p, span(0, 3, 1, 2, -1, -1), "<b|>abc", 7}, {p, nil, "<|>", 3}, {p, span(0, 9), "<|>", 12}, {p, span(3, 2, 4, 4, 0, 4), "<|abcd>", 7}, {pieces(group(-5), text(""), text("x")), span(0, 1), "x", 1}, {pieces(group(12)), append(make([]api.Span, 12), api.Span{From: 1, To: 3}), "bc", 2}, {pieces(group(13)), make([]api.Span, 13), "", 0},
		{pieces(api.Piece{Group: 0, Text: []byte("zzz")}), span(0, 1), "a", 1}, {p, span(-1, 2), "<|>", 3}, {pieces(group(0), group(0)), span(0, 1<<62), "", 1 << 40}, {pieces(group(0)), span(0, 1<<40-1), "", 1<<40 - 1}, {pieces(group(0), text("ab")), span(0, 1<<40-1), "ab", 1 << 40}, {pieces(group(1 << 40)), span(0, 1), "", 0}, {pieces(group(0)), span(5, 5), "", 0},
	} {
		if got := Expand(c.p, []byte("abcd"), c.l); string(got) != c.want {
			t.Errorf("%d: %q", i, got)
		}
		if got := Long(c.p, c.l); got != c.long {
			t.Errorf("%d: %d", i, got)
		}
	}
}

// What follows: there and back, and lists that are cut.
func TestBack(t *testing.T) {
	r := rand.New(rand.NewSource(1))
	for range 20000 {
		var p []api.Piece
		for range r.Intn(6) {
			if r.Intn(2) == 0 && (len(p) == 0 || p[len(p)-1].Group >= 0) {
				p = append(p, text("&\\\n1a/n"[r.Intn(7):]))
			} else {
				p = append(p, group(r.Intn(10)))
			}
		}
		l, e := Print(p)
		back, e2, _ := Parse(l)
		if e != api.OK || e2 != api.OK || !reflect.DeepEqual(back, p) || strings.Contains(sample.Text(l), "\n") {
			t.Fatalf("%v: %q: %v", p, sample.Text(l), back)
		}
		in := []byte("abcdefgh")
		var spans []api.Span
		for range r.Intn(11) {
			from := r.Intn(9)
			spans = append(spans, api.Span{From: from, To: from + r.Intn(9-from)})
			if r.Intn(3) == 0 {
				spans[len(spans)-1] = api.Span{From: -1, To: -1}
			}
		}
		whole := Expand(p, in, spans)
		if len(whole) != Long(p, spans) {
			t.Fatalf("%v %v: %q", p, spans, whole)
		}
		k := r.Intn(len(p) + 1)
		if string(Expand(p[:k], in, spans))+string(Expand(p[k:], in, spans)) != string(whole) {
			t.Fatalf("%v: cut", p)
		}
		// What is read is well shaped, whatever the marks.
		var any []api.Mark
		for range r.Intn(7) {
			any = append(any, api.Mark{Byte: "&\\12n\n0a"[r.Intn(8)], Plain: r.Intn(3) == 0})
		}
		if q, e, at := Parse(any); e == api.OK && !Shaped(q) || at < 0 || at > len(any) {
			t.Fatalf("%v: %v", any, q)
		}
	}
}

// R5
func TestMemory(t *testing.T) {
	in := []byte("abcd")
	p := pieces(text("x"), group(0))
	out := Expand(p, in, []api.Span{{From: 0, To: 4}})
	out[1] = '!'
	if string(in) != "abcd" || string(p[0].Text) != "x" {
		t.Error("shared")
	}
	q, _, _ := Parse(sample.Marks("ab&cd"))
	q[0].Text = append(q[0].Text, "zzz"...)
	if string(q[2].Text) != "cd" {
		t.Error("shared")
	}
}
