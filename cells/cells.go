// Package cells represents bits on a write-once medium, some of which are unreadable. It is layer 1: see shared/doc/01-cells.md.
package cells

import "stele/api"

const cellsPerByte = 8

// Check returns ErrSyntax if c contains a character other than 0, 1 and ?.
func Check(c string) api.Errno {
	// The loops of this package range over the length of a string: ranging
	// over the string itself would decode runes and skip bytes.
	for i := range len(c) {
		switch c[i] {
		case '0', '1', '?':
		default:
			return api.ErrSyntax
		}
	}
	return api.OK
}

// FromBytes returns the eight cells of each byte, most significant bit first.
func FromBytes(b string) string {
	c := make([]byte, 0, len(b)*cellsPerByte)
	for i := range len(b) {
		for bit := range cellsPerByte {
			c = append(c, '0'+b[i]>>(cellsPerByte-1-bit)&1)
		}
	}
	return string(c)
}

// ToBytes returns the bytes of c, with 0 for unreadable cells, and the indices of the bytes that have unreadable cells.
// If c is neither a cell string nor of a valid length, the error is ErrSyntax.
func ToBytes(c string) (string, []int, api.Errno) {
	if e := Check(c); e != api.OK {
		return "", nil, e
	}
	if len(c)%cellsPerByte != 0 {
		return "", nil, api.ErrShort
	}
	b := make([]byte, 0, len(c)/cellsPerByte)
	var unreadable []int
	for i := range len(c) / cellsPerByte {
		group := c[i*cellsPerByte : (i+1)*cellsPerByte]
		b = append(b, byteOf(group))
		if Unreadable(group) > 0 {
			unreadable = append(unreadable, i)
		}
	}
	return string(b), unreadable, api.OK
}

func byteOf(group string) byte {
	var b byte
	for i := range len(group) {
		b <<= 1
		if group[i] == '1' {
			b |= 1
		}
	}
	return b
}

// Distance returns the number of positions at which both strings are readable and differ.
// If a string is no cell string, the error is ErrSyntax even if the lengths differ as well.
func Distance(a, b string) (int, api.Errno) {
	if e := Check(a); e != api.OK {
		return 0, e
	}
	if e := Check(b); e != api.OK {
		return 0, e
	}
	if len(a) != len(b) {
		return 0, api.ErrArgument
	}
	n := 0
	for i := range len(a) {
		if a[i] != b[i] && a[i] != '?' && b[i] != '?' {
			n++
		}
	}
	return n, api.OK
}

// Unreadable returns the number of unreadable cells, whatever else c contains.
func Unreadable(c string) int {
	n := 0
	for i := range len(c) {
		if c[i] == '?' {
			n++
		}
	}
	return n
}

// Invert exchanges 0 and 1, and keeps all other bytes.
func Invert(c string) string {
	inverted := make([]byte, 0, len(c))
	for i := range len(c) {
		inverted = append(inverted, invertCell(c[i]))
	}
	return string(inverted)
}

func invertCell(cell byte) byte {
	switch cell {
	case '0':
		return '1'
	case '1':
		return '0'
	}
	return cell
}
