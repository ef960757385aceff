// Package bits writes and reads numbers of any many bits: layer 1, see shared/doc/01-bits.md.
package bits

import (
	"bowline/api"
)

// widest is how many bits the widest number has.
const widest = 64

// Writer has bits.
type Writer struct {
	bytes []byte
	n     int
}

// Reader reads bits.
type Reader struct {
	bytes []byte
	at    int
}

// New is a writer without bits.
func New() *Writer { return &Writer{} }

// Len is how many bits there are.
func (w *Writer) Len() int {
	if w == nil {
		return 0
	}
	return w.n
}

// Bytes is all bits as bytes.
func (w *Writer) Bytes() []byte {
	if w == nil {
		return nil
	}
	return copied(w.bytes)
}

// Put puts a number's bits.
func (w *Writer) Put(v uint64, n int) api.Errno {
	switch {
	case w == nil:
		return api.ErrNil
	case !mayBe(n) || v>>n != 0:
		return api.ErrArg
	case w.n+n > api.MaxBits:
		return api.ErrFull
	}
next:
	if n > 0 {
		n--
		w.add(byte(v >> n & 1))
		goto next
	}
	return api.OK
}

func (w *Writer) add(bit byte) {
	if w.n%8 == 0 {
		w.bytes = append(w.bytes, 0)
	}
	w.bytes[w.n/8] |= bit << (7 - w.n%8)
	w.n++
}

// Read is a reader of bytes.
func Read(b []byte) *Reader {
	return &Reader{bytes: copied(b[:min(len(b), api.MaxBits/8)])}
}

// Left is how many bits are left.
func (r *Reader) Left() int {
	if r == nil {
		return 0
	}
	return 8*len(r.bytes) - r.at
}

// Get is the number of the next bits.
func (r *Reader) Get(n int) (uint64, api.Errno) {
	switch {
	case r == nil:
		return 0, api.ErrNil
	case !mayBe(n):
		return 0, api.ErrArg
	case n > r.Left():
		return 0, api.ErrShort
	}
	var v uint64
next:
	if n > 0 {
		n--
		v = v<<1 | uint64(r.bit(r.at))
		r.at++
		goto next
	}
	return v, api.OK
}

// Rest is the whole bytes that are left.
func (r *Reader) Rest() ([]byte, api.Errno) {
	if r == nil {
		return nil, api.ErrNil
	}
	at := r.at
next:
	if at%8 != 0 {
		if r.bit(at) == 1 {
			return nil, api.ErrForm
		}
		at++
		goto next
	}
	r.at = 8 * len(r.bytes)
	return copied(r.bytes[at/8:]), api.OK
}

func (r *Reader) bit(at int) byte {
	return r.bytes[at/8] >> (7 - at%8) & 1
}

func mayBe(n int) bool { return n >= 0 && n <= widest }

// copied has no room behind its length, so that an append to what is handed out meets nothing of ours.
func copied(b []byte) []byte {
	c := make([]byte, len(b))
	copy(c, b)
	return c
}
