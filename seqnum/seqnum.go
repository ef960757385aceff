// Package seqnum reckons with numbers that go round: layer 2, see shared/doc/02-seqnum.md.
package seqnum

import (
	"bowline/api"
)

const (
	widest   = 16
	farthest = 1 << widest
	longest  = 1024
)

// Space is numbers that go round.
type Space struct{ Bits int }

// Right tells whether a space may be.
func Right(s Space) bool {
	for less := range widest {
		if s == (Space{Bits: less + 1}) {
			return true
		}
	}
	return false
}

// Size is how many numbers there are.
func (s Space) Size() int {
	if !Right(s) {
		return 0
	}
	return 1 << s.Bits
}

// Is tells whether a number is one of them.
func (s Space) Is(n int) bool { return n >= 0 && n < s.Size() }

// Go goes on from a number.
func (s Space) Go(n, by int) (int, api.Errno) {
	if e := s.fault(n); e != api.OK {
		return 0, e
	}
	switch {
	case by < -farthest || by > farthest:
		return 0, api.ErrArg
	case by < 0:
		goto back
	}
	return (n + by) % s.Size(), api.OK
back:
	// farthest is a whole number of rounds in every space, so that adding it leads to the same number.
	return (n + by + farthest) % s.Size(), api.OK
}

// Far is how far a number is from another one.
func (s Space) Far(a, b int) (int, api.Errno) {
	if e := s.fault(a, b); e != api.OK {
		return 0, e
	}
	return s.far(a, b), api.OK
}

// In tells whether a number is in a window.
func (s Space) In(base, size, n int) (bool, api.Errno) {
	if e := s.fault(base, n); e != api.OK {
		return false, e
	}
	if size < 1 || size > s.Size()/2 {
		return false, api.ErrArg
	}
	return s.far(base, n) < size, api.OK
}

// Less tells whether a number is less far than another one.
func (s Space) Less(base, a, b int) (bool, api.Errno) {
	if e := s.fault(base, a, b); e != api.OK {
		return false, e
	}
	return s.far(base, a) < s.far(base, b), api.OK
}

// Between is the numbers from one on, ahead of another one.
func (s Space) Between(from, to int) ([]int, api.Errno) {
	if e := s.fault(from, to); e != api.OK {
		return nil, e
	}
	many := s.far(from, to)
	if many > longest {
		return nil, api.ErrLong
	}
	l := make([]int, many)
	for i := range l {
		l[i] = (from + i) % s.Size()
	}
	return l, api.OK
}

// fault is what is wrong with the space, else with the numbers.
func (s Space) fault(numbers ...int) api.Errno {
	if !Right(s) {
		return api.ErrForm
	}
	for _, n := range numbers {
		if !s.Is(n) {
			return api.ErrArg
		}
	}
	return api.OK
}

// far takes numbers that the space has.
func (s Space) far(a, b int) int { return (b - a + s.Size()) % s.Size() }
