package parse

import (
	"bytes"

	"galley/address"
	"galley/api"
	"galley/fill"
	"galley/syntax"
)

// isLabel: no line end, no blank at its beginning or end.
func isLabel(text []byte) bool {
	return bytes.IndexByte(text, '\n') < 0 && len(bytes.Trim(text, blanks)) == len(text)
}

// isFile: a name of a disk that does not begin with a blank.
func isFile(name []byte) bool {
	return len(name) >= 1 && len(name) <= api.MaxName && !bytes.ContainsAny(name, "\x00\n/") && name[0] != ' ' && name[0] != '\t'
}

// Shaped: may it be a command as Parse makes them?
func Shaped(c api.Cmd) bool {
	return headed(c) && texted(c) && changing(c) && (c.Name == 'y' || c.Table == api.Table{})
}

// headed: its name, its addresses, Not and its place.
func headed(c api.Cmd) bool {
	n := 0
	switch {
	case c.B.Kind != api.AddrNone:
		n = 2
	case c.A.Kind != api.AddrNone:
		n = 1
	}
	most := Most(c.Name)
	return n <= most && !(n == 2 && c.A.Kind == api.AddrNone) && !(most == 0 && c.Not) && c.At >= 0 && right(c.A) && right(c.B)
}

// right: an address that is not right is the only one that is refused so.
func right(a api.Addr) bool {
	_, err := address.Print(a, true)
	return err != api.ErrAddr
}

// texted: its text.
func texted(c api.Cmd) bool {
	switch c.Name {
	case 'a', 'c', 'i':
		return true
	case 'b', 't':
		return isLabel(c.Text)
	case ':':
		return isLabel(c.Text) && len(c.Text) > 0
	case 'r', 'w':
		return isFile(c.Text)
	case 's':
		if c.Write {
			return isFile(c.Text)
		}
	}
	return len(c.Text) == 0
}

// changing: what belongs to s.
func changing(c api.Cmd) bool {
	if c.Name != 's' {
		return len(c.Re) == 0 && len(c.Fill) == 0 && c.Count == 0 && !c.All && !c.Print && !c.Write
	}
	return (len(c.Re) == 0 || syntax.Shaped(c.Re)) && fill.Shaped(c.Fill) && filled(c) && c.Count >= 0 && c.Count <= api.MaxSpace
}
