package seqnum_test

import (
	"math"
	"slices"
	"testing"

	"bowline/api"
	"bowline/seqnum"
)

// wrong is the bits of spaces that may not be.
var wrong = []int{math.MinInt, -65536, -16, -1, 0, 17, 18, 32, 63, 64, 65, 1 << 40, math.MaxInt}

// odd is numbers that hardly any space has.
var odd = []int{math.MinInt, math.MinInt32, -65536, -1, 65536, math.MaxInt32, math.MaxInt}

func space(b int) seqnum.Space { return seqnum.Space{Bits: b} }

func size(b int) int { return int(math.Pow(2, float64(b))) }

// steps is where one comes to by going on step by step.
func steps(b, n, by int) int {
	for range by {
		n++
		if n == size(b) {
			n = 0
		}
	}
	for range -by {
		if n == 0 {
			n = size(b)
		}
		n--
	}
	return n
}

// far is how many steps there are from a to c.
func far(b, a, c int) int {
	n := 0
	for a != c {
		a = steps(b, a, 1)
		n++
	}
	return n
}

func wantGo(t *testing.T, b, n, by, want int, e api.Errno) {
	t.Helper()
	if m, f := space(b).Go(n, by); m != want || f != e {
		t.Fatalf("%d bits: Go(%d, %d): %d %v, want %d %v", b, n, by, m, f, want, e)
	}
}

func wantFar(t *testing.T, b, a, c, want int, e api.Errno) {
	t.Helper()
	if m, f := space(b).Far(a, c); m != want || f != e {
		t.Fatalf("%d bits: Far(%d, %d): %d %v, want %d %v", b, a, c, m, f, want, e)
	}
}

func wantIn(t *testing.T, b, base, size, n int, want bool, e api.Errno) {
	t.Helper()
	if is, f := space(b).In(base, size, n); is != want || f != e {
		t.Fatalf("%d bits: In(%d, %d, %d): %v %v, want %v %v", b, base, size, n, is, f, want, e)
	}
}

func wantLess(t *testing.T, b, base, a, c int, want bool, e api.Errno) {
	t.Helper()
	if is, f := space(b).Less(base, a, c); is != want || f != e {
		t.Fatalf("%d bits: Less(%d, %d, %d): %v %v, want %v %v", b, base, a, c, is, f, want, e)
	}
}

func wantBetween(t *testing.T, b, from, to int, want []int, e api.Errno) {
	t.Helper()
	if l, f := space(b).Between(from, to); !slices.Equal(l, want) || f != e {
		t.Fatalf("%d bits: Between(%d, %d): %v %v, want %v %v", b, from, to, l, f, want, e)
	}
}

// P2.1

func TestRightAndSize(t *testing.T) {
	for b := 1; b <= 16; b++ {
		if !seqnum.Right(space(b)) || space(b).Size() != size(b) {
			t.Errorf("%d bits: Right %v, Size %d", b, seqnum.Right(space(b)), space(b).Size())
		}
	}
	for _, b := range wrong {
		if seqnum.Right(space(b)) || space(b).Size() != 0 {
			t.Errorf("%d bits: Right %v, Size %d", b, seqnum.Right(space(b)), space(b).Size())
		}
	}
}

func TestIs(t *testing.T) {
	for b := 1; b <= 16; b++ {
		for _, n := range []int{0, 1, size(b) / 2, size(b) - 1} {
			if !space(b).Is(n) {
				t.Errorf("%d bits: Is(%d) false", b, n)
			}
		}
		for _, n := range append([]int{size(b), size(b) + 1, -size(b)}, odd...) {
			if space(b).Is(n) {
				t.Errorf("%d bits: Is(%d) true", b, n)
			}
		}
	}
	for _, b := range wrong {
		for _, n := range append([]int{0, 1}, odd...) {
			if space(b).Is(n) {
				t.Errorf("%d bits: Is(%d) true", b, n)
			}
		}
	}
}

// P2.2

func TestExamples(t *testing.T) {
	wantGo(t, 5, 31, 2, 1, api.OK)
	wantFar(t, 5, 30, 1, 3, api.OK)
}

func TestSpacesThatMayNotBe(t *testing.T) {
	for _, b := range wrong {
		for _, n := range append([]int{0, 1}, odd...) {
			wantGo(t, b, n, 0, 0, api.ErrForm)
			wantGo(t, b, 0, n, 0, api.ErrForm)
			wantFar(t, b, n, 0, 0, api.ErrForm)
			wantFar(t, b, 0, n, 0, api.ErrForm)
			wantIn(t, b, n, 1, 0, false, api.ErrForm)
			wantIn(t, b, 0, n, 0, false, api.ErrForm)
			wantIn(t, b, 0, 1, n, false, api.ErrForm)
			wantLess(t, b, n, 0, 0, false, api.ErrForm)
			wantLess(t, b, 0, n, 0, false, api.ErrForm)
			wantLess(t, b, 0, 0, n, false, api.ErrForm)
			wantBetween(t, b, n, 0, nil, api.ErrForm)
			wantBetween(t, b, 0, n, nil, api.ErrForm)
		}
	}
}

func TestNumbersThatAreNone(t *testing.T) {
	for b := 1; b <= 16; b++ {
		for _, n := range append([]int{size(b), size(b) + 1}, odd...) {
			wantGo(t, b, n, 0, 0, api.ErrArg)
			wantGo(t, b, n, 1, 0, api.ErrArg)
			wantGo(t, b, n, 65537, 0, api.ErrArg)
			wantFar(t, b, n, 0, 0, api.ErrArg)
			wantFar(t, b, 0, n, 0, api.ErrArg)
			wantFar(t, b, n, n, 0, api.ErrArg)
			wantIn(t, b, n, 1, 0, false, api.ErrArg)
			wantIn(t, b, 0, 1, n, false, api.ErrArg)
			wantIn(t, b, n, 1, n, false, api.ErrArg)
			wantLess(t, b, n, 0, 1, false, api.ErrArg)
			wantLess(t, b, 0, n, 1, false, api.ErrArg)
			wantLess(t, b, 0, 0, n, false, api.ErrArg)
			wantBetween(t, b, n, 0, nil, api.ErrArg)
			wantBetween(t, b, 0, n, nil, api.ErrArg)
			wantBetween(t, b, n, n, nil, api.ErrArg)
		}
	}
}

func TestGoStepByStep(t *testing.T) {
	for b := 1; b <= 6; b++ {
		for n := range size(b) {
			for by := -3 * size(b); by <= 3*size(b); by++ {
				wantGo(t, b, n, by, steps(b, n, by), api.OK)
			}
		}
	}
}

func TestGoFar(t *testing.T) {
	for b := 1; b <= 16; b++ {
		last := size(b) - 1
		for _, n := range []int{0, 1, last / 2, last} {
			for _, by := range []int{65536, -65536} {
				wantGo(t, b, n, by, n, api.OK)
			}
			for _, by := range []int{65535, -65535, 65534, -65534, 40000, -40000} {
				wantGo(t, b, n, by, steps(b, n, by), api.OK)
			}
			for _, by := range []int{65537, -65537, 1 << 20, -1 << 20, math.MaxInt, math.MinInt} {
				wantGo(t, b, n, by, 0, api.ErrArg)
			}
		}
		wantGo(t, b, last, 1, 0, api.OK)
		wantGo(t, b, 0, -1, last, api.OK)
	}
}

func TestFarStepByStep(t *testing.T) {
	for b := 1; b <= 6; b++ {
		for a := range size(b) {
			for c := range size(b) {
				wantFar(t, b, a, c, far(b, a, c), api.OK)
			}
		}
	}
	for b := 1; b <= 16; b++ {
		last := size(b) - 1
		wantFar(t, b, 0, last, last, api.OK)
		wantFar(t, b, last, 0, 1, api.OK)
		wantFar(t, b, last, last, 0, api.OK)
		wantFar(t, b, last, last-1, last, api.OK)
	}
}

func TestInStepByStep(t *testing.T) {
	for b := 1; b <= 5; b++ {
		for base := range size(b) {
			for wide := 1; wide <= size(b)/2; wide++ {
				for n := range size(b) {
					wantIn(t, b, base, wide, n, far(b, base, n) < wide, api.OK)
				}
			}
		}
	}
}

func TestInSizes(t *testing.T) {
	for b := 1; b <= 16; b++ {
		half, last := size(b)/2, size(b)-1
		for _, wide := range []int{math.MinInt, -1, 0, half + 1, size(b), size(b) + 1, math.MaxInt} {
			wantIn(t, b, 0, wide, 0, false, api.ErrArg)
			wantIn(t, b, last, wide, 0, false, api.ErrArg)
		}
		wantIn(t, b, 0, half, half-1, true, api.OK)
		wantIn(t, b, 0, half, half, false, api.OK)
		wantIn(t, b, 0, half, last, false, api.OK)
		wantIn(t, b, 0, 1, 0, true, api.OK)
		wantIn(t, b, 0, 1, 1, false, api.OK)
		wantIn(t, b, last, 1, last, true, api.OK)
		wantIn(t, b, last, 1, 0, false, api.OK)
		wantIn(t, b, last, half, half-1, false, api.OK)
	}
	wantIn(t, 5, 30, 4, 1, true, api.OK)
	wantIn(t, 5, 30, 4, 2, false, api.OK)
	wantIn(t, 5, 30, 4, 29, false, api.OK)
}

func TestLessStepByStep(t *testing.T) {
	for b := 1; b <= 5; b++ {
		for base := range size(b) {
			for a := range size(b) {
				for c := range size(b) {
					wantLess(t, b, base, a, c, far(b, base, a) < far(b, base, c), api.OK)
				}
			}
		}
	}
	wantLess(t, 16, 65535, 65535, 65534, true, api.OK)
	wantLess(t, 16, 65535, 65534, 65535, false, api.OK)
	wantLess(t, 16, 1, 65535, 0, true, api.OK)
}

// onward is so many numbers from one on.
func onward(b, from, many int) []int {
	var l []int
	for range many {
		l = append(l, from)
		from = steps(b, from, 1)
	}
	return l
}

func TestBetweenStepByStep(t *testing.T) {
	for b := 1; b <= 6; b++ {
		for from := range size(b) {
			for to := range size(b) {
				wantBetween(t, b, from, to, onward(b, from, far(b, from, to)), api.OK)
			}
		}
	}
}

func TestBetweenMany(t *testing.T) {
	for b := 10; b <= 16; b++ {
		for _, from := range []int{0, 1, size(b) - 512, size(b) - 1} {
			wantBetween(t, b, from, from, nil, api.OK)
			wantBetween(t, b, from, steps(b, from, 1023), onward(b, from, 1023), api.OK)
			if b == 10 {
				continue
			}
			wantBetween(t, b, from, steps(b, from, 1024), onward(b, from, 1024), api.OK)
			wantBetween(t, b, from, steps(b, from, 1025), nil, api.ErrLong)
			wantBetween(t, b, from, steps(b, from, -1), nil, api.ErrLong)
		}
	}
}

func TestBetweenIsNewMemory(t *testing.T) {
	first, _ := space(5).Between(30, 2)
	for i := range first {
		first[i] = 9
	}
	wantBetween(t, 5, 30, 2, []int{30, 31, 0, 1}, api.OK)
}

// P2.3

func TestThereAndBack(t *testing.T) {
	for b := 1; b <= 16; b++ {
		for i := range 200 {
			n, by := i*7919%size(b), i*650-65000
			there, e := space(b).Go(n, by)
			if e != api.OK || !space(b).Is(there) {
				t.Fatalf("%d bits: Go(%d, %d): %d %v", b, n, by, there, e)
			}
			wantGo(t, b, there, -by, n, api.OK)
		}
	}
}

func TestFarAndFarBack(t *testing.T) {
	for b := 1; b <= 16; b++ {
		for i := range 200 {
			n, m := i*7919%size(b), i*i*31%size(b)
			there, e := space(b).Far(n, m)
			back, f := space(b).Far(m, n)
			if e != api.OK || f != api.OK {
				t.Fatalf("%d bits: Far of %d and %d: %v %v", b, n, m, e, f)
			}
			want := size(b)
			if n == m {
				want = 0
			}
			if there+back != want {
				t.Fatalf("%d bits: Far of %d and %d: %d and %d", b, n, m, there, back)
			}
			wantGo(t, b, n, there, m, api.OK)
		}
	}
}

// P2.4

func TestWindowsMoveOn(t *testing.T) {
	for b := 1; b <= 16; b++ {
		for i := range 40 {
			base, n, wide := i*7919%size(b), i*7907%size(b), 1+i*53%(size(b)/2)
			is, e := space(b).In(base, wide, n)
			if e != api.OK {
				t.Fatalf("%d bits: In(%d, %d, %d): %v", b, base, wide, n, e)
			}
			for _, by := range []int{1, -1, size(b) / 2, size(b) - 1, 12345, -54321, 65536} {
				moved, _ := space(b).Go(base, by)
				other, _ := space(b).Go(n, by)
				wantIn(t, b, moved, wide, other, is, api.OK)
			}
		}
	}
}
