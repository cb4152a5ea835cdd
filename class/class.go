// Package class is layer 1: sets of bytes, the alphabet of regexes.
package class

import (
	"cmp"
	"math/bits"
	"slices"

	"galley/api"
)

// named: a run of bytes of a name; a name with several runs has several rows.
type named struct {
	name   string
	lo, hi byte
}

// names: the bytes of the C locale's classes.
var names = [23]named{
	{"upper", 65, 90},
	{"lower", 97, 122},
	{"alpha", 65, 90}, {"alpha", 97, 122},
	{"digit", 48, 57},
	{"alnum", 48, 57}, {"alnum", 65, 90}, {"alnum", 97, 122},
	{"xdigit", 48, 57}, {"xdigit", 65, 70}, {"xdigit", 97, 102},
	{"blank", 9, 9}, {"blank", 32, 32},
	{"space", 9, 13}, {"space", 32, 32},
	{"cntrl", 0, 31}, {"cntrl", 127, 127},
	{"graph", 33, 126},
	{"print", 32, 126},
	{"punct", 33, 47}, {"punct", 58, 64}, {"punct", 91, 96}, {"punct", 123, 126},
}

// Of: the class of these bytes.
func Of(b ...byte) api.Class {
	var c api.Class
	for _, x := range b {
		c[x/64] |= 1 << (x % 64)
	}
	return c
}

// Range: the bytes from lo to hi, both with.
func Range(lo, hi byte) api.Class {
	var c api.Class
	for x := int(lo); x <= int(hi); x++ {
		c[x/64] |= 1 << (x % 64)
	}
	return c
}

// Named: the bytes of a name, and whether it is one.
func Named(name string) (api.Class, bool) {
	var c api.Class
	for _, row := range names {
		if row.name == name {
			c = Or(c, Range(row.lo, row.hi))
		}
	}
	return c, c != api.Class{}
}

// Has: is b in c?
func Has(c api.Class, b byte) bool {
	return c[b/64]>>(b%64)&1 == 1
}

// Or: what is in a or b.
func Or(a, b api.Class) api.Class {
	for i, w := range &b {
		a[i] |= w
	}
	return a
}

// And: what is in both.
func And(a, b api.Class) api.Class {
	for i, w := range &b {
		a[i] &= w
	}
	return a
}

// Not: all other bytes.
func Not(c api.Class) api.Class {
	var out api.Class
	for i, w := range &c {
		out[i] = ^w
	}
	return out
}

// Size: how many bytes c has.
func Size(c api.Class) int {
	n := 0
	for _, w := range &c {
		n += bits.OnesCount64(w)
	}
	return n
}

// All goes through the bytes of c, rising.
func All(c api.Class) func(yield func(byte) bool) {
	return func(yield func(byte) bool) {
		for x := 0; x < 256; x++ {
			if Has(c, byte(x)) && !yield(byte(x)) {
				return
			}
		}
	}
}

// Runs: the runs of c, rising.
func Runs(c api.Class) []api.Run {
	var l []api.Run
	for b := range All(c) {
		if n := len(l); n > 0 && int(l[n-1].Hi)+1 == int(b) {
			l[n-1].Hi = b
		} else {
			l = append(l, api.Run{Lo: b, Hi: b})
		}
	}
	return l
}

// Atoms: the atoms of the classes, in the order of their least bytes.
func Atoms(l ...api.Class) []api.Class {
	atoms := []api.Class{Range(0, 255)}
	for _, c := range l {
		atoms = split(atoms, c)
	}
	slices.SortFunc(atoms, func(a, b api.Class) int { return cmp.Compare(least(a), least(b)) })
	return atoms
}

// split parts each atom into what c has of it and what c has not.
func split(atoms []api.Class, c api.Class) []api.Class {
	var out []api.Class
	for _, a := range atoms {
		in := And(a, c)
		if in == a || in == (api.Class{}) {
			out = append(out, a)
			continue
		}
		out = append(out, in, And(a, Not(c)))
	}
	return out
}

// least: the least byte of c; 256, if it has none.
func least(c api.Class) int {
	for b := range All(c) {
		return int(b)
	}
	return 256
}
