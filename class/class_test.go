package class

import (
	"math/rand"
	"slices"
	"testing"

	"galley/api"
)

// pick: some class, of few or many bytes.
func pick(r *rand.Rand) api.Class {
	var c api.Class
	for range r.Intn(12) {
		lo, hi := byte(r.Intn(256)), byte(r.Intn(256))
		c = Or(c, Range(lo, min(hi, lo|15)))
	}
	if r.Intn(3) == 0 {
		c = Not(c)
	}
	return c
}

func bytesOf(c api.Class) []byte {
	var l []byte
	for b := range All(c) {
		l = append(l, b)
	}
	return l
}

// P1.1
func TestMade(t *testing.T) {
	if c := Of(97, 98, 97); c != Range(97, 98) || Size(c) != 2 || c != (api.Class{0, 3 << 33, 0, 0}) {
		t.Errorf("Of: %v", c)
	}
	if Of() != (api.Class{}) || Range(97, 96) != (api.Class{}) || Range(255, 0) != (api.Class{}) {
		t.Error("none")
	}
	if Size(Range(0, 255)) != 256 || Size(Range(7, 7)) != 1 || Size(Range(255, 255)) != 1 {
		t.Error("Range")
	}
}

// P1.1
func TestNamed(t *testing.T) {
	is := func(name string, in func(b byte) bool) {
		c, ok := Named(name)
		if !ok {
			t.Errorf("%s: false", name)
		}
		for b := 0; b < 256; b++ {
			if Has(c, byte(b)) != in(byte(b)) {
				t.Errorf("%s: %d", name, b)
			}
		}
	}
	upper := func(b byte) bool { return b >= 65 && b <= 90 }
	lower := func(b byte) bool { return b >= 97 && b <= 122 }
	digit := func(b byte) bool { return b >= 48 && b <= 57 }
	alnum := func(b byte) bool { return upper(b) || lower(b) || digit(b) }
	is("upper", upper)
	is("lower", lower)
	is("alpha", func(b byte) bool { return upper(b) || lower(b) })
	is("digit", digit)
	is("alnum", alnum)
	is("xdigit", func(b byte) bool { return digit(b) || b >= 65 && b <= 70 || b >= 97 && b <= 102 })
	is("blank", func(b byte) bool { return b == 9 || b == 32 })
	is("space", func(b byte) bool { return b >= 9 && b <= 13 || b == 32 })
	is("cntrl", func(b byte) bool { return b < 32 || b == 127 })
	is("graph", func(b byte) bool { return b >= 33 && b <= 126 })
	is("print", func(b byte) bool { return b >= 32 && b <= 126 })
	is("punct", func(b byte) bool { return b >= 33 && b <= 126 && !alnum(b) })
	for _, name := range []string{"", "word", "Alpha", "alpha ", "ALNUM", "alph", "ascii"} {
		if c, ok := Named(name); ok || c != (api.Class{}) {
			t.Errorf("%q", name)
		}
	}
}

// P1.2
func TestSets(t *testing.T) {
	r := rand.New(rand.NewSource(1))
	for range 200 {
		a, b := pick(r), pick(r)
		n := 0
		for x := 0; x < 256; x++ {
			y := byte(x)
			if Has(Or(a, b), y) != (Has(a, y) || Has(b, y)) || Has(And(a, b), y) != (Has(a, y) && Has(b, y)) || Has(Not(a), y) == Has(a, y) {
				t.Fatalf("%v %v: %d", a, b, x)
			}
			if Has(a, y) {
				n++
			}
		}
		if Size(a) != n || Size(a)+Size(Not(a)) != 256 || Not(Or(a, b)) != And(Not(a), Not(b)) {
			t.Fatalf("%v", a)
		}
	}
}

// P1.3
func TestAll(t *testing.T) {
	r := rand.New(rand.NewSource(2))
	for range 100 {
		c := pick(r)
		l := bytesOf(c)
		if len(l) != Size(c) || !slices.IsSorted(l) || Of(l...) != c {
			t.Fatalf("%v: %v", c, l)
		}
	}
	all := All(Range(97, 100))
	var got []byte
	for b := range all {
		got = append(got, b)
		if b == 98 {
			break
		}
	}
	for b := range all {
		got = append(got, b)
	}
	if string(got) != "ababcd" {
		t.Errorf("%s", got)
	}
	if l := bytesOf(Of(0, 255)); len(l) != 2 || l[0] != 0 || l[1] != 255 {
		t.Errorf("%v", l)
	}
	for range All(api.Class{}) {
		t.Error("none")
	}
}

// P1.4
func TestRuns(t *testing.T) {
	check := func(c api.Class, want ...api.Run) {
		if got := Runs(c); !slices.Equal(got, want) {
			t.Errorf("%v, not %v", got, want)
		}
	}
	check(Of(1, 2, 3, 7, 255), api.Run{Lo: 1, Hi: 3}, api.Run{Lo: 7, Hi: 7}, api.Run{Lo: 255, Hi: 255})
	check(Of(0, 63, 64, 127, 128), api.Run{Lo: 0, Hi: 0}, api.Run{Lo: 63, Hi: 64}, api.Run{Lo: 127, Hi: 128})
	check(Of())
	check(Range(0, 255), api.Run{Lo: 0, Hi: 255})
	r := rand.New(rand.NewSource(3))
	for range 200 {
		c := pick(r)
		var back api.Class
		last := -2
		for _, x := range Runs(c) {
			if int(x.Lo) <= last+1 || x.Hi < x.Lo {
				t.Fatalf("%v: %v", c, Runs(c))
			}
			last = int(x.Hi)
			back = Or(back, Range(x.Lo, x.Hi))
		}
		if back != c {
			t.Fatalf("%v: %v", c, Runs(c))
		}
	}
}

// P1.5
func TestAtoms(t *testing.T) {
	check := func(got []api.Class, want ...api.Class) {
		if !slices.Equal(got, want) {
			t.Errorf("%v, not %v", got, want)
		}
	}
	all := Range(0, 255)
	check(Atoms(), all)
	check(Atoms(all), all)
	check(Atoms(api.Class{}), all)
	check(Atoms(Of(97)), Not(Of(97)), Of(97))
	check(Atoms(Range(97, 99), Range(98, 100)), Not(Range(97, 100)), Of(97), Of(98, 99), Of(100))
	check(Atoms(Of(0), Of(0), Not(Of(0))), Of(0), Range(1, 255))
	var each []api.Class
	for b := 0; b < 256; b++ {
		each = append(each, Of(byte(b)))
	}
	check(Atoms(each...), each...)
	r := rand.New(rand.NewSource(4))
	for range 60 {
		var l []api.Class
		for range r.Intn(6) {
			l = append(l, pick(r))
		}
		checkAtoms(t, l)
	}
}

// checkAtoms holds the atoms against what says which two bytes lie in one.
func checkAtoms(t *testing.T, l []api.Class) {
	before := slices.Clone(l)
	of := [256]int{}
	var sum api.Class
	last := -1
	for i, a := range Atoms(l...) {
		if Size(a) == 0 || And(sum, a) != (api.Class{}) || int(bytesOf(a)[0]) <= last {
			t.Fatalf("%v: atom %d: %v", l, i, a)
		}
		last = int(bytesOf(a)[0])
		sum = Or(sum, a)
		for b := range All(a) {
			of[b] = i
		}
	}
	if sum != Range(0, 255) || !slices.Equal(l, before) {
		t.Fatalf("%v: not all bytes, or changed", l)
	}
	for x := 0; x < 256; x++ {
		for y := 0; y < x; y++ {
			one := true
			for _, c := range l {
				one = one && Has(c, byte(x)) == Has(c, byte(y))
			}
			if one != (of[x] == of[y]) {
				t.Fatalf("%v: %d and %d", l, x, y)
			}
		}
	}
}
