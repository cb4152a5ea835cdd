package play

import (
	"math"
	"strconv"
	"strings"

	"galley/api"
	"galley/quote"
)

// word: what it says; shown: it stands between quotes.
type word struct {
	says  string
	shown bool
}

// misfit: a line, or a word of it, that is none.
type misfit struct{ what string }

func (m misfit) Error() string { return m.what + " does not fit" }

// fit leaves the line, if something of it is not as it must be.
func fit(ok bool, what string) {
	if !ok {
		panic(misfit{what})
	}
}

// cut: the words of a line.
func cut(line string) []word {
	fit(len(line) <= api.MaxScript && strings.IndexByte(line, '\n') < 0, "the line")
	var l []word
	for {
		line = strings.TrimLeft(line, " ")
		if line == "" {
			return l
		}
		n := length(line)
		w := word{says: line[:n]}
		if line[0] == '"' {
			b, ok := quote.Unshow(line[:n])
			fit(ok, "a word between quotes")
			w = word{string(b), true}
		}
		fit(n > 0 && (n == len(line) || line[n] == ' '), "a word")
		l = append(l, w)
		line = line[n:]
	}
}

// length: how many bytes the word has that begins a line.
func length(line string) int {
	if line[0] != '"' {
		n := 0
		for n < len(line) && line[n] >= 33 && line[n] <= 126 && line[n] != '"' {
			n++
		}
		return n
	}
	for i := 1; i < len(line); i++ {
		switch line[i] {
		case '\\':
			i++
		case '"':
			return i + 1
		}
	}
	return len(line)
}

// plain: what a word says that may not stand between quotes.
func plain(w word) string {
	fit(!w.shown, "a word between quotes")
	return w.says
}

// number: a number without a minus.
func number(w word) int {
	s := plain(w)
	fit(s != "" && (s == "0" || s[0] != '0') && strings.Trim(s, "0123456789") == "", "a number")
	n, err := strconv.Atoi(s)
	fit(err == nil && n <= math.MaxInt32, "a number")
	return n
}

// signed: a number that may have a minus.
func signed(w word) int {
	s, minus := strings.CutPrefix(plain(w), "-")
	if minus {
		return -number(word{says: s})
	}
	return number(w)
}
