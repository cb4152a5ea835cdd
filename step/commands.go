package step

import (
	"strconv"

	"galley/api"
	"galley/change"
	"galley/fold"
	"galley/table"
)

// table: what each name does.
func (r *runner) table() map[byte]func(c *api.Cmd) api.Errno {
	return map[byte]func(c *api.Cmd) api.Errno{
		'{': r.open, '=': r.number, 'a': r.after, 'b': r.branch, 'c': r.replace, 'd': r.remove, 'D': r.removeFirst,
		'g': r.spaces, 'G': r.spaces, 'h': r.spaces, 'H': r.spaces, 'x': r.spaces, 'i': r.ahead, 'l': r.list, 'n': r.nextLine, 'N': r.joinLine,
		'p': r.print, 'P': r.printFirst, 'q': r.quit, 'r': r.read, 's': r.change, 't': r.test, 'w': r.file, 'y': r.translate,
	}
}

// endCycle: the command leads to the cycle's end.
func (r *runner) endCycle() { r.next = len(r.p.Cmds) }

func (r *runner) open(*api.Cmd) api.Errno { return api.OK }

func (r *runner) number(*api.Cmd) api.Errno {
	return r.write([]byte(strconv.Itoa(r.world.Line())))
}

func (r *runner) after(c *api.Cmd) api.Errno {
	r.queue.Text(c.Text)
	return api.OK
}

func (r *runner) branch(*api.Cmd) api.Errno {
	r.next = r.p.To[r.at]
	return api.OK
}

func (r *runner) replace(c *api.Cmd) api.Errno {
	if err := r.remove(c); err != api.OK {
		return err
	}
	if c.B.Kind == api.AddrNone || c.Not || r.closes {
		return r.write(c.Text)
	}
	return api.OK
}

func (r *runner) remove(*api.Cmd) api.Errno {
	r.bare = true
	r.endCycle()
	return r.Put(nil)
}

func (r *runner) removeFirst(c *api.Cmd) api.Errno {
	if !r.Cut() {
		return r.remove(c)
	}
	r.bare, r.again = true, true
	r.endCycle()
	return api.OK
}

func (r *runner) spaces(c *api.Cmd) api.Errno { return r.Do(c.Name) }

func (r *runner) ahead(c *api.Cmd) api.Errno { return r.write(c.Text) }

func (r *runner) list(*api.Cmd) api.Errno { return r.out(fold.Row(r.Pattern(), api.Width)) }

func (r *runner) nextLine(c *api.Cmd) api.Errno {
	if r.world.Last() {
		return r.quit(c)
	}
	if !r.p.Quiet {
		if err := r.print(c); err != api.OK {
			return err
		}
	}
	return r.take(r.Put)
}

func (r *runner) joinLine(c *api.Cmd) api.Errno {
	if r.world.Last() {
		r.bare = true
		return r.quit(c)
	}
	return r.take(r.Join)
}

// take: the queue goes out, and the next line is put into the space; without one the run has ended.
func (r *runner) take(put func(b []byte) api.Errno) api.Errno {
	if err := r.flush(); err != api.OK {
		return err
	}
	b, ok := r.world.Next()
	if !ok {
		r.at = AtEnd
		return api.OK
	}
	r.flag = false
	return put(b)
}

func (r *runner) print(*api.Cmd) api.Errno { return r.write(r.Pattern()) }

func (r *runner) printFirst(*api.Cmd) api.Errno {
	first, _ := r.First()
	return r.write(first)
}

func (r *runner) quit(*api.Cmd) api.Errno {
	r.over = true
	r.endCycle()
	return api.OK
}

func (r *runner) read(c *api.Cmd) api.Errno {
	r.queue.File(string(c.Text))
	return api.OK
}

func (r *runner) change(c *api.Cmd) api.Errno {
	re := r.apply(part{r.at, ofItself}, c.Re)
	if re == nil {
		return api.OK
	}
	b, n, err := change.Do(re, c.Fill, r.Pattern(), c.Count, c.All, api.MaxSpace)
	if err != api.OK || n == 0 {
		return err
	}
	if err := r.Put(b); err != api.OK {
		return err
	}
	r.flag = true
	if c.Print {
		if err := r.print(c); err != api.OK {
			return err
		}
	}
	if c.Write {
		return r.file(c)
	}
	return api.OK
}

func (r *runner) test(*api.Cmd) api.Errno {
	if r.flag {
		r.flag = false
		r.next = r.p.To[r.at]
	}
	return api.OK
}

func (r *runner) file(c *api.Cmd) api.Errno {
	return r.world.File(string(c.Text), append(r.Pattern(), '\n'))
}

func (r *runner) translate(c *api.Cmd) api.Errno {
	return r.Put(table.Apply(&c.Table, r.Pattern()))
}
