// Package sample makes what the tests hand in: marks, regexes, spans.
package sample

import "galley/api"

// Signs: the bytes of s as marks that are not plain.
func Signs(s string) []api.Mark {
	var l []api.Mark
	for _, b := range []byte(s) {
		l = append(l, api.Mark{Byte: b})
	}
	return l
}

// Marks: likewise, but a byte 1 makes the one behind it plain.
func Marks(s string) []api.Mark {
	var l []api.Mark
	plain := false
	for _, b := range []byte(s) {
		if b == 1 && !plain {
			plain = true
			continue
		}
		l = append(l, api.Mark{Byte: b, Plain: plain})
		plain = false
	}
	return l
}

// Text: the bytes of marks; "plain", if one is plain.
func Text(l []api.Mark) string {
	var b []byte
	for _, m := range l {
		if m.Plain {
			return "plain"
		}
		b = append(b, m.Byte)
	}
	return string(b)
}

// Spans: of from and to, one behind the other.
func Spans(l ...int) []api.Span {
	var out []api.Span
	for i := 0; i+1 < len(l); i += 2 {
		out = append(out, api.Span{From: l[i], To: l[i+1]})
	}
	return out
}
