package whole

import (
	"bytes"
	"strconv"
	"strings"

	"galley/api"
	"galley/fill"
	"galley/fold"
	"galley/regex"
)

// reference does a program as DOC.md says it, in one function's nest, with no layer above the regexes and the pieces of text.
type reference struct {
	p       api.Program
	lines   []string
	next    int
	most    int
	steps   int
	out     strings.Builder
	files   map[string]string // those of r and w
	space   string
	hold    string
	flag    bool
	queue   []func() string
	open    map[int]bool
	applied []api.Node
	ends    bool // the run ends with this cycle
	cut     bool // there were too few steps
}

func (r *reference) last() bool { return r.next == len(r.lines) }

// run: the whole program; r.cut tells whether it came to its end.
func (r *reference) run() {
	r.open = map[int]bool{}
	for r.next < len(r.lines) && !r.ends && !r.cut {
		r.take()
		r.space = r.lines[r.next-1]
		for again := true; again && !r.cut; {
			again = r.cycle()
		}
	}
}

func (r *reference) take() {
	r.next++
	r.flag = false
}

func (r *reference) flush() {
	for _, f := range r.queue {
		r.out.WriteString(f())
	}
	r.queue = nil
}

// cycle: the commands in order, and the cycle's end; does it begin anew without a line?
func (r *reference) cycle() bool {
	show, again := r.commands()
	if r.cut {
		return false
	}
	if show && !r.p.Quiet {
		r.out.WriteString(r.space + "\n")
	}
	r.flush()
	return again
}

func (r *reference) commands() (show, again bool) {
	for i := 0; i < len(r.p.Cmds); {
		c := r.p.Cmds[i]
		if c.Name == '}' || c.Name == ':' {
			i++
			continue
		}
		if r.steps == r.most {
			r.cut = true
			return false, false
		}
		r.steps++
		takes, closes := r.selected(i, c)
		to := i + 1
		if !takes {
			if c.Name == '{' {
				to = r.p.To[i]
			}
			i = to
			continue
		}
		switch c.Name {
		case 'c':
			r.space = ""
			if c.B.Kind == api.AddrNone || c.Not || closes {
				r.out.WriteString(string(c.Text) + "\n")
			}
			return false, false
		case 'd':
			r.space = ""
			return false, false
		case 'D':
			_, rest, found := strings.Cut(r.space, "\n")
			r.space = rest
			return false, found
		case 'n', 'N':
			if r.last() {
				r.ends = true
				return c.Name == 'n', false
			}
			if c.Name == 'n' && !r.p.Quiet {
				r.out.WriteString(r.space + "\n")
			}
			r.flush()
			r.take()
			if c.Name == 'n' {
				r.space = r.lines[r.next-1]
			} else {
				r.space += "\n" + r.lines[r.next-1]
			}
		case 'q':
			r.ends = true
			return true, false
		case 'b':
			to = r.p.To[i]
		case 't':
			if r.flag {
				r.flag = false
				to = r.p.To[i]
			}
		default:
			r.simple(c)
		}
		i = to
	}
	return true, false
}

// simple: a command that leads to the next one.
func (r *reference) simple(c api.Cmd) {
	text := string(c.Text)
	first, _, _ := strings.Cut(r.space, "\n")
	switch c.Name {
	case '=':
		r.out.WriteString(strconv.Itoa(r.next) + "\n")
	case 'a':
		r.queue = append(r.queue, func() string { return text + "\n" })
	case 'r':
		r.queue = append(r.queue, func() string { return r.files[text] })
	case 'i':
		r.out.WriteString(text + "\n")
	case 'l':
		r.out.Write(fold.Row([]byte(r.space), api.Width))
	case 'p':
		r.out.WriteString(r.space + "\n")
	case 'P':
		r.out.WriteString(first + "\n")
	case 'w':
		r.files[text] += r.space + "\n"
	case 'g':
		r.space = r.hold
	case 'G':
		r.space += "\n" + r.hold
	case 'h':
		r.hold = r.space
	case 'H':
		r.hold += "\n" + r.space
	case 'x':
		r.space, r.hold = r.hold, r.space
	case 'y':
		b := []byte(r.space)
		for i, x := range b {
			b[i] = c.Table[x]
		}
		r.space = string(b)
	case 's':
		if r.change(c) {
			r.flag = true
			if c.Print {
				r.out.WriteString(r.space + "\n")
			}
			if c.Write {
				r.files[text] += r.space + "\n"
			}
		}
	}
}

// applies: the regex of a tree, or the one that was applied last; nil, if there is none.
func (r *reference) applies(tree []api.Node) *regex.Regex {
	if len(tree) > 0 {
		r.applied = tree
	}
	if len(r.applied) == 0 {
		return nil
	}
	re, _ := regex.New(r.applied)
	return re
}

func (r *reference) change(c api.Cmd) bool {
	re := r.applies(c.Re)
	if re == nil {
		return false
	}
	var out bytes.Buffer
	text := []byte(r.space)
	end, n, changed := 0, 0, false
	for m := range re.All(text) {
		n++
		if n < c.Count || n > max(c.Count, 1) && !c.All {
			continue
		}
		out.Write(text[end:m[0].From])
		out.Write(fill.Expand(c.Fill, text, m))
		end = m[0].To
		changed = true
	}
	out.Write(text[end:])
	r.space = out.String()
	return changed
}

func (r *reference) hits(a api.Addr) bool {
	switch a.Kind {
	case api.AddrLine:
		return a.N == r.next
	case api.AddrLast:
		return r.last()
	}
	re := r.applies(a.Re)
	if re == nil {
		return false
	}
	_, ok := re.Find([]byte(r.space), 0)
	return ok
}

func (r *reference) selected(i int, c api.Cmd) (takes, closes bool) {
	takes = true
	switch {
	case c.A.Kind == api.AddrNone:
	case c.B.Kind == api.AddrNone:
		takes = r.hits(c.A)
	case r.open[i] && c.B.Kind == api.AddrLine:
		closes = r.next >= c.B.N
		r.open[i] = !closes
	case r.open[i]:
		closes = r.hits(c.B)
		r.open[i] = !closes
	default:
		takes = r.hits(c.A)
		closes = takes && (c.B.Kind == api.AddrLine && c.B.N <= r.next || c.B.Kind == api.AddrLast && r.last())
		r.open[i] = takes && !closes
	}
	return takes != c.Not, closes
}
