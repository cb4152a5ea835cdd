package disk

import (
	"bytes"
	"math/rand"
	"slices"
	"strings"
	"testing"

	"galley/api"
)

func must(t *testing.T, what string, got, want api.Errno) {
	t.Helper()
	if got != want {
		t.Errorf("%s: %d, not %d", what, got, want)
	}
}

func read(d *Disk, name string) string {
	b, e := d.Read(name)
	if e != api.OK {
		return "!" + string(rune('0'+int(e)/10)) + string(rune('0'+int(e)%10))
	}
	return string(b)
}

func names(d *Disk) string { return strings.Join(d.Names(), " ") }

// P3.1
func TestFrom(t *testing.T) {
	long := strings.Repeat("n", api.MaxName)
	var many []api.File
	for i := range api.MaxFiles + 1 {
		many = append(many, api.File{Name: long[:i%60+1] + string(rune('A'+i/60))})
	}
	for _, c := range []struct {
		room  int
		files []api.File
		want  api.Errno
	}{
		{-1, nil, api.ErrArg}, {api.MaxRoom + 1, nil, api.ErrArg}, {0, nil, api.OK}, {api.MaxRoom, nil, api.OK},
		{3, []api.File{{Name: "a", Bytes: make([]byte, 4)}}, api.ErrFull},
		{4, []api.File{{Name: "a", Bytes: make([]byte, 4), Synced: 4}}, api.OK},
		{3, []api.File{{Name: "a", Bytes: make([]byte, 2)}, {Name: "b", Bytes: make([]byte, 2)}}, api.ErrFull},
		{9, []api.File{{Name: "a"}, {Name: "a"}}, api.ErrArg},
		{1, []api.File{{Name: "a", Bytes: make([]byte, 4)}, {Name: "a"}}, api.ErrArg},
		{9, []api.File{{Name: "a", Synced: 1}}, api.ErrArg}, {9, []api.File{{Name: "a", Synced: -1}}, api.ErrArg},
		{9, []api.File{{Name: ""}}, api.ErrArg}, {9, []api.File{{Name: "a\x00"}}, api.ErrArg}, {9, []api.File{{Name: "\n"}}, api.ErrArg}, {9, []api.File{{Name: "a/b"}}, api.ErrArg},
		{9, []api.File{{Name: long}}, api.OK}, {9, []api.File{{Name: long + "n"}}, api.ErrArg}, {9, []api.File{{Name: "\xff ."}}, api.OK},
		{9, many, api.ErrArg}, {9, many[1:], api.OK},
	} {
		d, e := From(c.room, c.files)
		must(t, "From", e, c.want)
		if (d == nil) != (e != api.OK) {
			t.Errorf("From: %v beside %d", d, e)
		}
		if d != nil && (len(d.Names()) != len(c.files) || d.Pending() != 0 || d.Done() != 0 || !d.Power()) {
			t.Errorf("From: %v", d.Names())
		}
	}
	if d, e := New(-1); d != nil || e != api.ErrArg {
		t.Error("New")
	}
	in := []api.File{{Name: "b", Bytes: []byte("xy"), Synced: 1}, {Name: "a", Bytes: []byte("z"), Bad: true}}
	d, _ := From(9, in)
	in[0].Bytes[0] = '?'
	f := d.Files()
	if len(f) != 2 || f[0].Name != "a" || !f[0].Bad || f[0].Synced != 0 || string(f[0].Bytes) != "z" || f[1].Name != "b" || string(f[1].Bytes) != "xy" || f[1].Synced != 1 || f[1].Bad {
		t.Errorf("Files: %v", f)
	}
	f[1].Bytes[0] = '!'
	b, _ := d.Read("b")
	b[1] = '!'
	if read(d, "b") != "xy" {
		t.Error("R5")
	}
}

// P3.2
func TestPlan(t *testing.T) {
	d, _ := New(99)
	for _, l := range [][]api.Fault{{{N: 0, Err: api.ErrIO}}, {{N: -3, Err: api.ErrIO}}, {{N: 2, Err: api.ErrIO}, {N: 2, Err: api.ErrIO}}, {{N: 3, Err: api.ErrIO}, {N: 2, Err: api.ErrIO}}, {{N: 1, Err: api.ErrName}}, {{N: 1}}} {
		d.Plan(api.Fault{N: 1, Err: api.ErrFull})
		must(t, "Plan", d.Plan(l...), api.ErrArg)
		must(t, "the plan stays", d.Make("a"), api.ErrFull)
	}
	must(t, "Plan", d.Plan(api.Fault{N: 2, Err: api.ErrIO}, api.Fault{N: 3, Err: api.ErrDown}), api.OK)
	must(t, "1", d.Make("x"), api.OK)
	must(t, "2", d.Append("x", []byte{1}), api.ErrIO)
	must(t, "no try", d.Append("y", []byte{1}), api.ErrGone)
	must(t, "no try", d.Make(""), api.ErrName)
	must(t, "3", d.SyncDir(), api.ErrDown)
	if d.Power() {
		t.Error("power")
	}
	must(t, "no power", d.Make("z"), api.ErrDown)
	must(t, "Plan without power", d.Plan(api.Fault{N: 2, Err: api.ErrFull}), api.OK)
	must(t, "no power, no try", d.Make("z"), api.ErrDown)
	d.Start(0)
	must(t, "1 anew", d.Make("z"), api.OK)
	must(t, "2 anew", d.Sync("z"), api.ErrFull)
	must(t, "3 anew", d.Sync("z"), api.OK)
	d.Plan(api.Fault{N: 1, Err: api.ErrIO})
	d.Plan()
	must(t, "no plan", d.Sync("z"), api.OK)
	l := []api.Fault{{N: 1, Err: api.ErrIO}}
	d.Plan(l...)
	l[0].Err = api.ErrFull
	must(t, "kept", d.Sync("z"), api.ErrIO)
}

// P3.2, P3.3: what is planned for each writing call.
func TestPlanned(t *testing.T) {
	for _, fault := range []api.Errno{api.ErrIO, api.ErrFull, api.ErrDown} {
		for i := range 6 {
			d, _ := From(9, []api.File{{Name: "a", Bytes: []byte("xy"), Synced: 1}})
			d.Plan(api.Fault{N: 1, Err: fault})
			calls := []func() api.Errno{func() api.Errno { return d.Make("n") }, func() api.Errno { return d.Append("a", []byte("z")) }, func() api.Errno { return d.Sync("a") },
				func() api.Errno { return d.Rename("a", "b") }, d.SyncDir, func() api.Errno { return d.Remove("a") }}
			e := calls[i]()
			if i == 5 && fault != api.ErrDown {
				must(t, "Remove", e, api.OK)
				if names(d) != "" || d.Done() != 1 || d.Pending() != 1 {
					t.Error("a Remove goes on")
				}
				continue
			}
			must(t, "planned", e, fault)
			if d.Done() != 0 || d.Pending() != 0 || d.Power() != (fault != api.ErrDown) {
				t.Errorf("%d: %d, %d", i, d.Done(), d.Pending())
			}
			if f := d.Files(); d.Power() && (len(f) != 1 || string(f[0].Bytes) != "xy" || f[0].Synced != 1) {
				t.Errorf("%d: %v", i, f)
			}
		}
	}
}

// P3.3
func TestCalls(t *testing.T) {
	d, _ := New(10)
	must(t, "Make", d.Make("a"), api.OK)
	must(t, "Make", d.Make(""), api.ErrName)
	must(t, "Make", d.Make("a/b"), api.ErrName)
	must(t, "Append", d.Append("b", []byte{1}), api.ErrGone)
	must(t, "Append", d.Append("b/", []byte{1}), api.ErrName)
	must(t, "Append", d.Append("a", []byte{1, 2, 3}), api.OK)
	must(t, "Append", d.Append("a", make([]byte, 8)), api.ErrFull)
	if d.Pending() != 1 || d.Done() != 2 || read(d, "a") != "\x01\x02\x03" {
		t.Errorf("%d %d", d.Pending(), d.Done())
	}
	must(t, "Sync", d.Sync("a"), api.OK)
	must(t, "Sync", d.Sync("b"), api.ErrGone)
	must(t, "Rename", d.Rename("a", "a"), api.OK)
	if d.Pending() != 1 || d.Done() != 4 {
		t.Errorf("%d %d", d.Pending(), d.Done())
	}
	must(t, "Rename", d.Rename("a", "c"), api.OK)
	must(t, "Rename", d.Rename("a", "c"), api.ErrGone)
	must(t, "Rename", d.Rename("a", ""), api.ErrName)
	must(t, "Rename", d.Rename("", "a"), api.ErrName)
	if d.Pending() != 2 {
		t.Errorf("%d", d.Pending())
	}
	must(t, "Append", d.Append("c", make([]byte, 7)), api.OK)
	must(t, "Append of nothing", d.Append("c", nil), api.OK)
	must(t, "Append", d.Append("c", []byte{1}), api.ErrFull)
	must(t, "Make anew", d.Make("c"), api.OK)
	if read(d, "c") != "" {
		t.Error("Make")
	}
	must(t, "Append", d.Append("c", make([]byte, 10)), api.OK)
	must(t, "Remove", d.Remove("x"), api.ErrGone)
	must(t, "Remove", d.Remove("\n"), api.ErrName)
	must(t, "Remove", d.Remove("c"), api.OK)
	must(t, "Append", d.Append("c", nil), api.ErrGone)
	must(t, "SyncDir", d.SyncDir(), api.OK)
	if d.Pending() != 0 || names(d) != "" {
		t.Errorf("%d %s", d.Pending(), names(d))
	}
}

// P3.3: no more than MaxFiles names.
func TestManyFiles(t *testing.T) {
	d, _ := New(10)
	for i := range api.MaxFiles {
		must(t, "Make", d.Make(string(rune('0'+i))), api.OK)
	}
	must(t, "Make", d.Make("one more"), api.ErrFull)
	must(t, "Make of one that is there", d.Make("0"), api.OK)
	must(t, "Remove", d.Remove("0"), api.OK)
	must(t, "Make", d.Make("one more"), api.OK)
}

// P3.4
func TestRead(t *testing.T) {
	d, _ := From(9, []api.File{{Name: "b", Bytes: []byte("x"), Synced: 1}, {Name: "a"}})
	must(t, "Spoil", d.Spoil("b", true), api.OK)
	must(t, "Spoil", d.Spoil("c", true), api.ErrGone)
	must(t, "Spoil", d.Spoil("", true), api.ErrName)
	if read(d, "b") != "!23" || read(d, "c") != "!21" || read(d, "") != "!20" || read(d, "a") != "" {
		t.Error("Read")
	}
	must(t, "Rename", d.Rename("b", "z"), api.OK)
	if read(d, "z") != "!23" || d.Done() != 1 || names(d) != "a z" {
		t.Error("Rename")
	}
	d.Off()
	if read(d, "a") != "!24" || d.Names() != nil || d.Files() != nil || d.Pending() != 1 || d.Done() != 1 {
		t.Error("without power")
	}
	must(t, "Spoil", d.Spoil("", true), api.ErrDown)
	d.Start(9)
	if read(d, "z") != "!23" || !d.Files()[1].Bad || d.Files()[0].Bad {
		t.Error("bad behind a Start")
	}
	must(t, "Spoil", d.Spoil("z", false), api.OK)
	if read(d, "z") != "x" {
		t.Error("good")
	}
}

// P3.5
func TestPower(t *testing.T) {
	make1 := func() *Disk {
		d, _ := From(10, []api.File{{Name: "f", Bytes: []byte{1, 2}, Synced: 2}})
		d.Make("t")
		d.Append("t", []byte{7, 8, 9})
		d.Rename("t", "f")
		d.Off()
		return d
	}
	for _, c := range []struct {
		dir  int
		keep []int
		want string
	}{
		{2, []int{1}, "f:\x07"}, {1, []int{0, 2}, "f:\x01\x02 t:\x07\x08"}, {0, nil, "f:\x01\x02"}, {-5, []int{9}, "f:\x01\x02"}, {9, []int{9, 9}, "f:\x07\x08\x09"}, {2, []int{-1}, "f:"}, {2, nil, "f:"},
	} {
		d := make1()
		d.Off()
		d.Start(c.dir, c.keep...)
		d.Start(0)
		var l []string
		for _, f := range d.Files() {
			if f.Synced != len(f.Bytes) {
				t.Error("not synced")
			}
			l = append(l, f.Name+":"+string(f.Bytes))
		}
		if got := strings.Join(l, " "); got != c.want || d.Pending() != 0 || !d.Power() || d.Done() != 3 {
			t.Errorf("%d %v: %q", c.dir, c.keep, got)
		}
		d.Off()
		d.Start(0)
		if got := len(d.Names()); got != len(l) {
			t.Error("durable")
		}
	}
}

// P3.5: what comes back may be more than room.
func TestMoreThanRoom(t *testing.T) {
	d, _ := From(4, []api.File{{Name: "f", Bytes: []byte("abcd"), Synced: 4}})
	d.Remove("f")
	d.Make("g")
	d.SyncDir()
	d.Append("g", []byte("wxyz"))
	d.Sync("g")
	d.Rename("g", "h")
	d.Make("i")
	d.Remove("h")
	must(t, "Append", d.Append("i", []byte("1234")), api.OK)
	d.Sync("i")
	d.Off()
	d.Start(2)
	if names(d) != "h i" || read(d, "h") != "wxyz" || read(d, "i") != "1234" {
		t.Fatal(names(d))
	}
	must(t, "Append", d.Append("i", []byte("1")), api.ErrFull)
	must(t, "Append of nothing", d.Append("i", nil), api.OK)
}

// R3
func TestNone(t *testing.T) {
	for _, d := range []*Disk{nil, {}} {
		for _, e := range []api.Errno{d.Plan(), d.Make("a"), d.Append("", nil), d.Sync("a"), d.Rename("a", "b"), d.Remove("a"), d.SyncDir(), d.Spoil("a", true)} {
			must(t, "none", e, api.ErrArg)
		}
		b, e := d.Read("a")
		must(t, "none", e, api.ErrArg)
		d.Off()
		d.Start(1, 2)
		if b != nil || d.Names() != nil || d.Files() != nil || d.Power() || d.Pending() != 0 || d.Done() != 0 {
			t.Error("none")
		}
	}
}

// modelFile and model say P3.3 and P3.5 once more: all folders since the last sync are kept.
type modelFile struct {
	b      []byte
	synced int
}

type model struct {
	files   []*modelFile
	folders []map[string]int
}

func (m *model) now() map[string]int { return m.folders[len(m.folders)-1] }

func (m *model) next(f func(n map[string]int)) {
	n := map[string]int{}
	for k, v := range m.now() {
		n[k] = v
	}
	f(n)
	m.folders = append(m.folders, n)
}

func (m *model) start(dir int, keep []int) {
	n := m.folders[max(0, min(dir, len(m.folders)-1))]
	m.folders = []map[string]int{n}
	for i, name := range sortedKeys(n) {
		f := m.files[n[name]]
		k := 0
		if i < len(keep) {
			k = min(max(keep[i], 0), len(f.b)-f.synced)
		}
		f.b = f.b[:f.synced+k]
		f.synced = len(f.b)
	}
}

func sortedKeys(n map[string]int) []string {
	var l []string
	for k := range n {
		l = append(l, k)
	}
	slices.Sort(l)
	return l
}

func (m *model) same(d *Disk) bool {
	l := d.Files()
	if len(l) != len(m.now()) || d.Pending() != len(m.folders)-1 {
		return false
	}
	for _, f := range l {
		i, ok := m.now()[f.Name]
		if !ok || !bytes.Equal(m.files[i].b, f.Bytes) || m.files[i].synced != f.Synced {
			return false
		}
	}
	return slices.Equal(sortedKeys(m.now()), d.Names())
}

// P3.3, P3.5: rows of calls, held against the model.
func TestModel(t *testing.T) {
	r := rand.New(rand.NewSource(1))
	for range 300 {
		d, _ := New(api.MaxRoom)
		m := &model{folders: []map[string]int{{}}}
		for i := range 60 {
			a, b := string(rune('a'+r.Intn(4))), string(rune('a'+r.Intn(4)))
			at, there := m.now()[a]
			switch r.Intn(9) {
			case 0, 1:
				d.Make(a)
				m.files = append(m.files, &modelFile{})
				m.next(func(n map[string]int) { n[a] = len(m.files) - 1 })
			case 2, 3:
				if x := []byte{byte(i), byte(i)}; d.Append(a, x) == api.OK {
					m.files[at].b = append(m.files[at].b, x...)
				} else if there {
					t.Fatal("Append")
				}
			case 4:
				if d.Sync(a) == api.OK {
					m.files[at].synced = len(m.files[at].b)
				}
			case 5:
				if d.Rename(a, b) == api.OK && a != b {
					m.next(func(n map[string]int) { delete(n, a); n[b] = at })
				}
			case 6:
				if d.Remove(a) == api.OK {
					m.next(func(n map[string]int) { delete(n, a) })
				}
			case 7:
				if r.Intn(3) == 0 {
					d.SyncDir()
					m.folders = m.folders[len(m.folders)-1:]
				}
			case 8:
				if r.Intn(4) == 0 {
					dir, keep := r.Intn(8)-1, []int{r.Intn(6) - 1, r.Intn(6) - 1, r.Intn(6)}
					d.Off()
					d.Start(dir, keep...)
					m.start(dir, keep)
				}
			}
			if !m.same(d) {
				t.Fatalf("%v, not %v", d.Files(), m.now())
			}
		}
	}
}

// What follows: a new file renamed over another one is wholly there, or the old one is.
func TestReplace(t *testing.T) {
	for at := 1; at <= 5; at++ {
		for dir := range 4 {
			for keep := range 5 {
				d, _ := From(99, []api.File{{Name: "f", Bytes: []byte("old"), Synced: 3}})
				d.Plan(api.Fault{N: at, Err: api.ErrDown})
				d.Make("t")
				d.Append("t", []byte("new!"))
				d.Sync("t")
				d.Rename("t", "f")
				d.SyncDir()
				d.Off()
				d.Start(dir, keep, keep)
				if got := read(d, "f"); got != "old" && !(got == "new!" && at == 5) {
					t.Errorf("%d %d %d: %q", at, dir, keep, got)
				}
			}
		}
	}
}
