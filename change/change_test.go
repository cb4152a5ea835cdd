package change

import (
	"bytes"
	"math/rand"
	"reflect"
	"slices"
	"strings"
	"testing"

	"galley/api"
	"galley/fill"
	"galley/regex"
	"galley/sample"
)

func find(t *testing.T, s string) *regex.Regex {
	t.Helper()
	r, e, _ := regex.Compile(false, sample.Signs(s))
	if e != api.OK {
		t.Fatalf("%s: %d", s, e)
	}
	return r
}

func pieces(s string) []api.Piece {
	p, _, _ := fill.Parse(sample.Signs(s))
	return p
}

// row answers by turn, and keeps what it was asked; then it answers no more.
type row struct {
	answers [][]api.Span
	places  []int
	texts   []string
}

func (r *row) Find(text []byte, from int) ([]api.Span, bool) {
	r.places = append(r.places, from)
	r.texts = append(r.texts, string(text))
	for i := range text[:cap(text)] {
		text[:cap(text)][i] = '!'
	}
	if len(r.places) > len(r.answers) {
		return sample.Spans(0, 0), false
	}
	return r.answers[len(r.places)-1], true
}

// P17.1
func TestSpans(t *testing.T) {
	if got := Spans(find(t, "a*"), []byte("baaac")); !reflect.DeepEqual(got, [][]api.Span{sample.Spans(0, 0), sample.Spans(1, 4), sample.Spans(5, 5)}) {
		t.Error(got)
	}
	for i, c := range []struct {
		answers [][]api.Span
		want    [][]api.Span
		places  []int
	}{
		{[][]api.Span{sample.Spans(3, 9)}, nil, []int{0}}, {[][]api.Span{sample.Spans(2, 1)}, nil, []int{0}}, {[][]api.Span{nil}, nil, []int{0}}, {[][]api.Span{sample.Spans(-1, 2)}, nil, []int{0}}, {nil, nil, []int{0}},
		{[][]api.Span{sample.Spans(0, 1, 4, 9)}, [][]api.Span{sample.Spans(0, 1, -1, -1)}, []int{0, 1}}, {[][]api.Span{sample.Spans(0, 1, -1, -1, 2, 1, -5, 3, 0, 5, 5, 5)}, [][]api.Span{sample.Spans(0, 1, -1, -1, -1, -1, -1, -1, 0, 5, 5, 5)}, []int{0, 1}},
		{[][]api.Span{sample.Spans(0, 2), sample.Spans(1, 3)}, [][]api.Span{sample.Spans(0, 2)}, []int{0, 2}}, {[][]api.Span{sample.Spans(0, 2), sample.Spans(2, 2), sample.Spans(3, 3), sample.Spans(3, 3), sample.Spans(4, 5)}, [][]api.Span{sample.Spans(0, 2), sample.Spans(3, 3), sample.Spans(4, 5)}, []int{0, 2, 3, 3, 4, 5}},
		{[][]api.Span{sample.Spans(0, 5), sample.Spans(5, 5)}, [][]api.Span{sample.Spans(0, 5)}, []int{0, 5}}, {[][]api.Span{sample.Spans(5, 5), sample.Spans(5, 5)}, [][]api.Span{sample.Spans(5, 5)}, []int{0, 5}},
	} {
		r := &row{answers: c.answers}
		text := append(make([]byte, 0, 9), "abcde"...)
		got := Spans(r, text)
		if !reflect.DeepEqual(got, c.want) || !slices.Equal(r.places, c.places) || string(text[:9]) != "abcde\x00\x00\x00\x00" {
			t.Errorf("%d: %v, asked at %v", i, got, r.places)
		}
		for _, s := range r.texts {
			if s != "abcde" {
				t.Errorf("%d: asked of %q", i, s)
			}
		}
	}
}

// P17.2
func TestDo(t *testing.T) {
	for i, c := range []struct {
		re, fill, text string
		first          int
		all            bool
		most           int
		want           string
		n              int
		err            api.Errno
	}{
		{"a*", "x", "baaac", 1, true, 99, "xbxcx", 3, 0}, {"x*", "-", "abc", 1, true, 99, "-a-b-c-", 4, 0}, {"b*", "x", "abc", 1, true, 99, "xaxcx", 3, 0}, {"a", "x", "aaaa", 2, false, 99, "axaa", 1, 0}, {"a", "x", "aaaa", 2, true, 99, "axxx", 3, 0}, {"a", "x", "aaaa", 5, false, 99, "aaaa", 0, 0}, {"a", "x", "aaaa", 5, true, 99, "aaaa", 0, 0},
		{"a", "x", "aaaa", 0, false, 99, "xaaa", 1, 0}, {"a", "x", "aaaa", -7, false, 99, "xaaa", 1, 0}, {"a", "x", "aaaa", -7, true, 99, "xxxx", 4, 0}, {`\(a\)\(b\)`, `\2\1&`, "abab", 1, true, 99, "baabbaab", 2, 0}, {`\(a\)\(b\)`, `\2\1&`, "abab", 1, true, 8, "baabbaab", 2, 0}, {`\(a\)\(b\)`, `\2\1&`, "abab", 1, true, 7, "", 0, api.ErrSpace},
		{"c", "x", "ab", 1, true, 1, "", 0, api.ErrSpace}, {"c", "x", "ab", 1, true, 2, "ab", 0, 0}, {"c", "x", "", 1, true, -1, "", 0, api.ErrSpace}, {"c", "x", "", 1, true, 0, "", 0, 0}, {"a", "", "aba", 1, true, 1, "b", 2, 0}, {"a", "", "aba", 1, true, 0, "", 0, api.ErrSpace}, {"a", "xyz", "a", 1, false, 2, "", 0, api.ErrSpace}, {"a*", "x", "baaac", 2, false, 99, "bxc", 1, 0}, {"a", `\3`, "ba", 1, true, 9, "b", 1, 0},
	} {
		text := []byte(c.text)
		got, n, e := Do(find(t, c.re), pieces(c.fill), text, c.first, c.all, c.most)
		if string(got) != c.want || n != c.n || e != c.err || string(text) != c.text {
			t.Errorf("%d: %q %d %d", i, got, n, e)
		}
	}
	// Without all no more is asked than is needed; a finder's wrong answers are no matches.
	r := &row{answers: [][]api.Span{sample.Spans(0, 1), sample.Spans(1, 2), sample.Spans(2, 3)}}
	if got, n, e := Do(r, pieces("x"), []byte("abcde"), 2, false, 99); string(got) != "axcde" || n != 1 || e != api.OK || !slices.Equal(r.places, []int{0, 1}) {
		t.Errorf("%q %d %v", got, n, r.places)
	}
	r = &row{answers: [][]api.Span{sample.Spans(0, 1), sample.Spans(1, 2), sample.Spans(2, 3)}}
	if _, _, e := Do(r, pieces("xxxxxx"), []byte("abcde"), 1, true, 5); e != api.ErrSpace || !slices.Equal(r.places, []int{0, 1, 2, 3}) {
		t.Errorf("%v", r.places)
	}
	r = &row{answers: [][]api.Span{sample.Spans(0, 1, 3, 9)}}
	if got, n, _ := Do(r, pieces(`<\1>`), []byte("abcde"), 1, true, 99); string(got) != "<>bcde" || n != 1 {
		t.Errorf("%q", got)
	}
}

// P17.2: what would be far too long is not put together.
func TestHuge(t *testing.T) {
	p := slices.Repeat([]api.Piece{{Group: 0}}, 1<<20)
	if got, n, e := Do(find(t, ".*"), p, bytes.Repeat([]byte{'x'}, 1<<20), 1, true, api.MaxSpace); got != nil || n != 0 || e != api.ErrSpace {
		t.Error("ErrSpace")
	}
}

// What follows.
func TestFollows(t *testing.T) {
	r := rand.New(rand.NewSource(1))
	for range 4000 {
		f := find(t, []string{"a*", "b", "a", "ab*", `\(a\)\1`, "^a", "$", "x*", "[ab]"}[r.Intn(9)])
		text := []byte(strings.Repeat("ababbaaab", 2)[r.Intn(9):][:r.Intn(9)])
		all := Spans(f, text)
		var want [][]api.Span
		for s := range f.All(text) {
			want = append(want, s)
		}
		if !reflect.DeepEqual(all, want) {
			t.Fatalf("%q: %v, not %v", text, all, want)
		}
		first := r.Intn(4)
		k := max(0, len(all)-max(first, 1)+1)
		if got, n, _ := Do(f, pieces("&"), text, first, true, 99); !bytes.Equal(got, text) || n != k {
			t.Fatalf("%q: %q %d", text, got, n)
		}
		if got, n, _ := Do(f, pieces("&"), text, first, false, 99); !bytes.Equal(got, text) || n != min(k, 1) {
			t.Fatalf("%q: %q %d", text, got, n)
		}
		p := pieces([]string{"x", "", "[&]", `\1y`}[r.Intn(4)])
		var out []byte
		end := 0
		for i, m := range all {
			if i+1 >= first {
				out = append(append(out, text[end:m[0].From]...), fill.Expand(p, text, m)...)
				end = m[0].To
			}
		}
		out = append(out, text[end:]...)
		if got, _, e := Do(f, p, text, first, true, len(out)); !bytes.Equal(got, out) || e != api.OK {
			t.Fatalf("%q: %q, not %q", text, got, out)
		}
		if _, _, e := Do(f, p, text, first, true, len(out)-1); e != api.ErrSpace {
			t.Fatalf("%q: no ErrSpace", text)
		}
	}
}
