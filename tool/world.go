package tool

import (
	"galley/api"
	"galley/cycle"
	"galley/disk"
	"galley/lines"
)

// world: what a run reads and writes.
type world struct {
	*lines.Reader
	d      *disk.Disk
	out    func(b []byte) api.Errno
	failed string // the file of w that could not be written
}

// run: the program over a world, with the steps that are left.
func (t *tool) run(w api.World) api.Errno {
	steps, err := cycle.Run(t.p, w, t.most-t.report.Steps)
	t.report.Steps += steps
	return err
}

func (w *world) Out(b []byte) api.Errno { return w.out(b) }

func (w *world) File(name string, b []byte) api.Errno {
	err := w.d.Append(name, b)
	if err != api.OK {
		w.failed = name
	}
	return err
}

func (w *world) Read(name string) []byte {
	b, err := w.d.Read(name)
	if err != api.OK {
		return nil
	}
	return b
}
