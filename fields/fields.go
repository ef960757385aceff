// Package fields has what the fields of all packets have in common, acknowledged or not: see shared/doc/09-umd.md and shared/doc/10-amd.md.
package fields

import (
	"bytes"
	"slices"

	"bowline/api"
	"bowline/lens"
)

// Size is how many bytes fields have, with the lengths of all but the last; 0, if they may not be.
func Size(l [][]byte, width int) int {
	if len(l) < 1 || len(l) > api.MaxFields {
		return 0
	}
	size := lens.Size(len(l)-1, width)
	right := each(l, func(at int, field []byte) bool {
		// A field that is too long is not added, so that the sum stays small.
		if len(field) < 1 || len(field) > longest(at == len(l)-1) {
			return false
		}
		size += len(field)
		return true
	})
	if !right {
		return 0
	}
	return size
}

// Same tells whether fields are equal.
func Same(a, b [][]byte) bool {
	return len(a) == len(b) && each(a, func(at int, field []byte) bool {
		return bytes.Equal(field, b[at])
	})
}

// Join is fields' bytes, one behind the other.
func Join(l [][]byte) []byte {
	n := 0
	each(l, func(_ int, field []byte) bool {
		n += len(field)
		return true
	})
	return behind(make([]byte, 0, n), l)
}

// Copy is fields in memory of their own.
func Copy(l [][]byte) [][]byte {
	c := make([][]byte, len(l))
	each(l, func(at int, field []byte) bool {
		c[at] = copied(field)
		return true
	})
	return c
}

// LengthBits is how many bits a length has in packets that are acknowledged, of the bits of their numbers.
func LengthBits(width int) int {
	if width == 10 {
		return 11
	}
	return 15
}

// Write is a head, and behind it the bytes of fields that may be.
func Write(head []byte, l [][]byte, width int) []byte {
	b := append(make([]byte, 0, len(head)+Size(l, width)), head...)
	if len(l) > 1 {
		lengths, _ := lens.Write(lengthsOf(l[:len(l)-1]), width)
		b = append(b, lengths...)
	}
	return behind(b, l)
}

// Read is the fields of the bytes behind a head, which tells whether there are two or more.
func Read(b []byte, more bool, width int) ([][]byte, api.Errno) {
	if !more {
		return cut(b, nil)
	}
	lengths, n, e := lens.Read(b, width)
	switch {
	case e != api.OK:
		return nil, e
	case slices.Max(lengths) > api.MaxLen:
		return nil, api.ErrForm
	}
	return cut(b[n:], lengths)
}

// cut is fields of some lengths, and a last one of what is left.
func cut(b []byte, lengths []int) ([][]byte, api.Errno) {
	l := make([][]byte, 0, len(lengths)+1)
next:
	n := len(b)
	if len(l) < len(lengths) {
		n = lengths[len(l)]
	}
	if n < 1 || n > len(b) {
		return nil, api.ErrShort
	}
	l = append(l, copied(b[:n]))
	b = b[n:]
	if len(l) <= len(lengths) {
		goto next
	}
	return l, api.OK
}

// each hands fields to a function till it says no, and tells whether it never did.
func each(l [][]byte, tell func(at int, field []byte) bool) bool {
	at := 0
next:
	if at < len(l) {
		if !tell(at, l[at]) {
			return false
		}
		at++
		goto next
	}
	return true
}

// behind puts fields' bytes behind others.
func behind(b []byte, l [][]byte) []byte {
	each(l, func(_ int, field []byte) bool {
		b = append(b, field...)
		return true
	})
	return b
}

func lengthsOf(l [][]byte) []int {
	lengths := make([]int, len(l))
	each(l, func(at int, field []byte) bool {
		lengths[at] = len(field)
		return true
	})
	return lengths
}

// longest is how many bytes a field may have: the last one is bounded by its packet alone.
func longest(last bool) int {
	if last {
		return api.MaxPDU
	}
	return api.MaxLen
}

// copied has no room behind its length, so that an append to what is handed out meets nothing of ours.
func copied(b []byte) []byte {
	c := append([]byte(nil), b...)
	return c[:len(c):len(c)]
}
