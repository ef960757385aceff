package rxwin_test

import (
	"math"
	"math/rand"
	"reflect"
	"slices"
	"testing"

	"bowline/api"
	"bowline/rxwin"
)

// noNumbers is what is a number of no space.
var noNumbers = []int{-1, -2, 1 << 16, 1<<16 + 1, 1 << 32, 1<<32 + 1, math.MinInt, math.MaxInt}

// of is a window.
func of(t *testing.T, bits, size int) *rxwin.Window {
	t.Helper()
	w, e := rxwin.New(bits, size)
	if w == nil || e != api.OK {
		t.Fatalf("New(%d, %d): %v", bits, size, e)
	}
	return w
}

// state is what there is to ask of a window: R, MS, H, and what is missing.
type state struct {
	ends    [3]int
	missing []int
}

func (a state) is(b state) bool { return a.ends == b.ends && slices.Equal(a.missing, b.missing) }

func stateOf(w *rxwin.Window) state { return state{w.State(), w.Missing()} }

// at is a state.
func at(r, ms, h int, missing ...int) state { return state{[3]int{r, ms, h}, missing} }

func wantState(t *testing.T, w *rxwin.Window, want state) {
	t.Helper()
	if s := stateOf(w); !s.is(want) {
		t.Fatalf("state %+v, want %+v", s, want)
	}
}

func wantCame(t *testing.T, w *rxwin.Window, n int) {
	t.Helper()
	is := w.Is(n)
	if e := w.Came(n); e != api.OK {
		t.Fatalf("Came(%d): %v", n, e)
	}
	if w.Is(n) != is {
		t.Fatalf("Came(%d): whole %v", n, w.Is(n))
	}
}

// wantWhole lets a number be whole, and tells which ones it went past.
func wantWhole(t *testing.T, w *rxwin.Window, n int, past ...int) {
	t.Helper()
	l, e := w.Whole(n)
	if e != api.OK || !slices.Equal(l, past) {
		t.Fatalf("Whole(%d): %v %v, want %v", n, l, e, past)
	}
	if w.Is(n) == slices.Contains(past, n) {
		t.Fatalf("Whole(%d): %v, and whole %v", n, l, w.Is(n))
	}
}

func wantLate(t *testing.T, w *rxwin.Window, x int) {
	t.Helper()
	if e := w.Late(x); e != api.OK {
		t.Fatalf("Late(%d): %v", x, e)
	}
}

// wantNo lets nothing come of a number, which changes nothing.
func wantNo(t *testing.T, w *rxwin.Window, n int, came, whole api.Errno) {
	t.Helper()
	before := stateOf(w)
	if e := w.Came(n); e != came {
		t.Fatalf("Came(%d): %v, want %v", n, e, came)
	}
	wantState(t, w, before)
	wantNotWhole(t, w, n, whole)
}

func wantNotWhole(t *testing.T, w *rxwin.Window, n int, want api.Errno) {
	t.Helper()
	before, is := stateOf(w), w.Is(n)
	if l, e := w.Whole(n); len(l) != 0 || e != want {
		t.Fatalf("Whole(%d): %v %v, want %v", n, l, e, want)
	}
	if w.Is(n) != is {
		t.Fatalf("Whole(%d): whole %v", n, w.Is(n))
	}
	wantState(t, w, before)
}

func wantNotLate(t *testing.T, w *rxwin.Window, x int, want api.Errno) {
	t.Helper()
	before := stateOf(w)
	if e := w.Late(x); e != want {
		t.Fatalf("Late(%d): %v, want %v", x, e, want)
	}
	wantState(t, w, before)
}

// wantIs asks of all numbers of 5 bits, and of others, whether they are whole.
func wantIs(t *testing.T, w *rxwin.Window, whole ...int) {
	t.Helper()
	for n := -3; n < 70; n++ {
		if w.Is(n) != slices.Contains(whole, n) {
			t.Fatalf("Is(%d): %v", n, w.Is(n))
		}
	}
	for _, n := range noNumbers {
		if w.Is(n) {
			t.Fatalf("Is(%d)", n)
		}
	}
}

// P23.1

func TestNew(t *testing.T) {
	for bits := 1; bits <= 16; bits++ {
		half := 1 << bits / 2
		for _, size := range []int{1, (half + 1) / 2, half} {
			wantState(t, of(t, bits, size), state{})
		}
		for _, size := range []int{0, -1, half + 1, 2 * half, math.MinInt, math.MaxInt, 1<<32 + 1} {
			if w, e := rxwin.New(bits, size); w != nil || e != api.ErrArg {
				t.Errorf("New(%d, %d): %v %v", bits, size, w != nil, e)
			}
		}
	}
	for _, bits := range []int{0, -1, 17, 64, 1<<32 + 5, math.MinInt, math.MaxInt} {
		for _, size := range []int{-1, 0, 1, 2, 1 << 15, 1 << 16} {
			if w, e := rxwin.New(bits, size); w != nil || e != api.ErrArg {
				t.Errorf("New(%d, %d): %v %v", bits, size, w != nil, e)
			}
		}
	}
}

func TestNoWindow(t *testing.T) {
	for _, w := range []*rxwin.Window{nil, {}} {
		for range 2 {
			wantState(t, w, state{})
			for _, n := range append(noNumbers, 0, 1, 5) {
				wantNo(t, w, n, api.ErrNil, api.ErrNil)
				wantNotLate(t, w, n, api.ErrNil)
				if w.In(n) || w.Is(n) || w.Far(n) != 0 {
					t.Errorf("%d: in %v, whole %v, far %d", n, w.In(n), w.Is(n), w.Far(n))
				}
			}
			w.Reset()
		}
	}
}

func TestCalls(t *testing.T) {
	var names []string
	for m := range reflect.TypeFor[*rxwin.Window]().Methods() {
		names = append(names, m.Name)
	}
	want := []string{"Came", "Far", "In", "Is", "Late", "Missing", "Reset", "State", "Whole"}
	if !slices.Equal(names, want) {
		t.Errorf("the calls %v, want %v", names, want)
	}
}

// TestFarAndIn: both are meant from R, wherever MS and H are.
func TestFarAndIn(t *testing.T) {
	for _, size := range []int{1, 7, 16} {
		w := of(t, 5, size)
		from := func(r int) {
			t.Helper()
			for n := range 32 {
				far := (n - r + 32) % 32
				if w.Far(n) != far || w.In(n) != (far < size) {
					t.Fatalf("%d: far %d, in %v, of %d", n, w.Far(n), w.In(n), r)
				}
			}
			for _, n := range append(noNumbers, 32, 33, 64) {
				if w.Far(n) != -1 || w.In(n) {
					t.Fatalf("%d: far %d, in %v", n, w.Far(n), w.In(n))
				}
			}
		}
		from(0)
		for i := range 70 {
			r := i % 32
			wantCame(t, w, (r+size-1)%32)
			from(r)
			wantLate(t, w, (r+size)%32)
			from(r)
			wantWhole(t, w, r, r)
			from((r + 1) % 32)
		}
	}
}

func TestIs(t *testing.T) {
	w := of(t, 5, 16)
	wantIs(t, w)
	wantCame(t, w, 3)
	wantIs(t, w)
	wantWhole(t, w, 3)
	wantWhole(t, w, 15)
	wantIs(t, w, 3, 15)
	wantWhole(t, w, 0, 0)
	wantIs(t, w, 3, 15)
	wantWhole(t, w, 2)
	wantWhole(t, w, 1, 1, 2, 3)
	wantIs(t, w, 15)
}

// TestMissing: what is not whole, from R on, ahead of MS alone.
func TestMissing(t *testing.T) {
	w := of(t, 5, 16)
	wantWhole(t, w, 5)
	wantWhole(t, w, 2)
	wantCame(t, w, 7)
	wantState(t, w, at(0, 0, 8))
	wantLate(t, w, 1)
	wantState(t, w, at(0, 1, 8, 0))
	wantLate(t, w, 2)
	wantState(t, w, at(0, 3, 8, 0, 1))
	wantLate(t, w, 4)
	wantState(t, w, at(0, 4, 8, 0, 1, 3))
	wantLate(t, w, 8)
	wantState(t, w, at(0, 8, 8, 0, 1, 3, 4, 6, 7))
	wantWhole(t, w, 4)
	wantState(t, w, at(0, 8, 8, 0, 1, 3, 6, 7))
	wantWhole(t, w, 0, 0)
	wantState(t, w, at(1, 8, 8, 1, 3, 6, 7))
}

// P23.2

func TestExample(t *testing.T) {
	w := of(t, 10, 512)
	wantWhole(t, w, 1)
	wantState(t, w, at(0, 0, 2))
	wantWhole(t, w, 0, 0, 1)
	wantState(t, w, at(2, 2, 2))
}

// TestCame: H goes on if the number is H, or further, and never back.
func TestCame(t *testing.T) {
	w := of(t, 5, 16)
	for _, c := range []struct{ n, h int }{{0, 1}, {0, 1}, {1, 2}, {0, 2}, {1, 2}, {5, 6}, {3, 6}, {4, 6}, {5, 6}, {6, 7}, {14, 15}, {0, 15}, {15, 16}, {15, 16}, {7, 16}} {
		wantCame(t, w, c.n)
		wantState(t, w, at(0, 0, c.h))
	}
	wantIs(t, w)
}

// TestCameOfWhole: what is whole may come anew.
func TestCameOfWhole(t *testing.T) {
	w := of(t, 5, 16)
	wantWhole(t, w, 3)
	wantCame(t, w, 3)
	wantCame(t, w, 2)
	wantState(t, w, at(0, 0, 4))
	wantNotWhole(t, w, 3, api.ErrTwice)
}

// TestNotInTheWindow: the edges of the window, and what is no number.
func TestNotInTheWindow(t *testing.T) {
	w := of(t, 5, 4)
	refused := func(r int) {
		t.Helper()
		for _, n := range append(noNumbers, 32, 33, 35) {
			wantNo(t, w, n, api.ErrArg, api.ErrArg)
		}
		for far := 4; far < 32; far++ {
			wantNo(t, w, (r+far)%32, api.ErrWindow, api.ErrWindow)
		}
	}
	refused(0)
	for i := range 70 {
		r := i % 32
		wantWhole(t, w, (r+3)%32)
		refused(r)
		wantNotWhole(t, w, (r+3)%32, api.ErrTwice)
		wantWhole(t, w, (r+1)%32)
		wantWhole(t, w, r, r, (r+1)%32)
		refused((r + 2) % 32)
		// what was told is not in the window, and no longer whole
		wantNo(t, w, r, api.ErrWindow, api.ErrWindow)
		next := (r + 2) % 32
		wantWhole(t, w, next, next, (next+1)%32)
		for n := (next + 2) % 32; n != (r+1)%32; n = (n + 1) % 32 {
			wantWhole(t, w, n, n)
		}
	}
}

// TestStatusGoesOn: MS goes on by what is whole, ahead of R or behind it.
func TestStatusGoesOn(t *testing.T) {
	w := of(t, 5, 16)
	wantCame(t, w, 9)
	wantWhole(t, w, 3)
	wantWhole(t, w, 4)
	wantLate(t, w, 2)
	wantState(t, w, at(0, 2, 10, 0, 1))
	wantWhole(t, w, 2)
	wantState(t, w, at(0, 5, 10, 0, 1))
	wantWhole(t, w, 6)
	wantState(t, w, at(0, 5, 10, 0, 1))
	wantWhole(t, w, 0, 0)
	wantState(t, w, at(1, 5, 10, 1))
	wantWhole(t, w, 5)
	wantState(t, w, at(1, 7, 10, 1))
	wantWhole(t, w, 1, 1, 2, 3, 4, 5, 6)
	wantState(t, w, at(7, 7, 10))
	wantWhole(t, w, 8)
	wantWhole(t, w, 9)
	wantState(t, w, at(7, 7, 10))
	wantWhole(t, w, 7, 7, 8, 9)
	wantState(t, w, at(10, 10, 10))
	wantWhole(t, w, 10, 10)
	wantState(t, w, at(11, 11, 11))
}

// TestStatusBehindTheWindow: MS and H are behind the window, if the last one in it came.
func TestStatusBehindTheWindow(t *testing.T) {
	for _, bits := range []int{1, 2, 5, 16} {
		all := 1 << bits
		size := all / 2
		w := of(t, bits, size)
		if size > 1 {
			wantWhole(t, w, size-1)
		} else {
			wantCame(t, w, 0)
		}
		wantLate(t, w, size)
		var missing []int
		for n := range max(size-1, 1) {
			missing = append(missing, n)
		}
		wantState(t, w, at(0, size, size, missing...))
		wantNo(t, w, size, api.ErrWindow, api.ErrWindow)
		wantNotLate(t, w, (size+1)%all, map[bool]api.Errno{true: api.OK, false: api.ErrWindow}[size == 1])
		wantWhole(t, w, 0, map[bool][]int{true: {0, 1}, false: {0}}[size == 2]...)
	}
}

// TestWidest: as many whole ones as may be, of the widest space.
func TestWidest(t *testing.T) {
	const size = 1 << 15
	w := of(t, 16, size)
	for n := size - 1; n > 0; n-- {
		wantWhole(t, w, n)
	}
	wantState(t, w, at(0, 0, size))
	wantLate(t, w, 1)
	wantState(t, w, at(0, size, size, 0))
	l, e := w.Whole(0)
	if e != api.OK || len(l) != size {
		t.Fatalf("Whole(0): %d, %v", len(l), e)
	}
	for i, n := range l {
		if i != n {
			t.Fatalf("the number %d is %d", i, n)
		}
	}
	wantState(t, w, at(size, size, size))
	wantWhole(t, w, 1<<16-1)
	wantState(t, w, at(size, size, 0))
	wantNo(t, w, 0, api.ErrWindow, api.ErrWindow)
	wantLate(t, w, 0)
	if n := len(w.Missing()); n != size-1 {
		t.Errorf("%d are missing", n)
	}
}

// P23.3

func TestLate(t *testing.T) {
	w := of(t, 5, 16)
	wantLate(t, w, 0)
	wantState(t, w, at(0, 0, 0))
	wantNotLate(t, w, 1, api.ErrWindow)
	wantNotLate(t, w, 31, api.ErrWindow)
	wantWhole(t, w, 3)
	wantCame(t, w, 4)
	for _, n := range append(noNumbers, 32, 33) {
		wantNotLate(t, w, n, api.ErrArg)
	}
	for n := 6; n < 32; n++ {
		wantNotLate(t, w, n, api.ErrWindow)
	}
	wantLate(t, w, 3)
	wantState(t, w, at(0, 4, 5, 0, 1, 2))
	for n := range 4 { // ahead of MS: nothing goes back
		wantLate(t, w, n)
		wantState(t, w, at(0, 4, 5, 0, 1, 2))
	}
	wantLate(t, w, 4)
	wantState(t, w, at(0, 4, 5, 0, 1, 2))
	wantLate(t, w, 5)
	wantState(t, w, at(0, 5, 5, 0, 1, 2, 4))
	wantNotLate(t, w, 6, api.ErrWindow)
	wantWhole(t, w, 0, 0)
	wantNotLate(t, w, 0, api.ErrWindow)
	wantLate(t, w, 1)
	wantState(t, w, at(1, 5, 5, 1, 2, 4))
}

func TestReset(t *testing.T) {
	w := of(t, 5, 4)
	w.Reset()
	wantState(t, w, state{})
	wantWhole(t, w, 0, 0)
	wantWhole(t, w, 3)
	wantLate(t, w, 2)
	wantState(t, w, at(1, 2, 4, 1))
	w.Reset()
	wantState(t, w, state{})
	wantIs(t, w)
	// what was whole is so no more, and the space and the size are as they were
	wantWhole(t, w, 3)
	wantNo(t, w, 4, api.ErrWindow, api.ErrWindow)
	wantNo(t, w, 32, api.ErrArg, api.ErrArg)
	wantState(t, w, at(0, 0, 4))
	w.Reset()
	w.Reset()
	wantState(t, w, state{})
}

// P23.4, P23.5

// model is a window word by word, of numbers that do not go round.
type model struct {
	all, size int
	r, ms, h  int
	whole     map[int]bool // of all that ever was
}

// nearest is the number from R on that goes round to n.
func (m *model) nearest(n int) int { return m.r + (n-m.r%m.all+m.all)%m.all }

func (m *model) came(n int) { m.h = max(m.h, n+1) }

func (m *model) open(n int) int {
	for m.whole[n] {
		n++
	}
	return n
}

func (m *model) becomeWhole(n int) []int {
	m.came(n)
	m.whole[n] = true
	m.ms = m.open(m.ms)
	var past []int
	for m.whole[m.r] {
		past = append(past, m.r%m.all)
		m.r++
	}
	m.ms = max(m.ms, m.r)
	return past
}

func (m *model) late(n int) {
	if n >= m.ms {
		m.ms = m.open(n)
	}
}

func (m *model) state() state {
	var missing []int
	for n := m.r; n < m.ms; n++ {
		if !m.whole[n] {
			missing = append(missing, n%m.all)
		}
	}
	return at(m.r%m.all, m.ms%m.all, m.h%m.all, missing...)
}

func TestModel(t *testing.T) {
	met := map[string]int{}
	for seed := range int64(300) {
		r := rand.New(rand.NewSource(seed))
		all := 1 << []int{1, 2, 3, 5, 10, 16}[seed%6]
		size := 1 + r.Intn(min(all/2, 40))
		w := of(t, []int{1, 2, 3, 5, 10, 16}[seed%6], size)
		m := &model{all: all, size: size, whole: map[int]bool{}}
		told := 0
		for range 600 {
			wantState(t, w, m.state())
			n := m.nearest((m.r + r.Intn(size+3) - 1 + all) % all)
			in := n-m.r < size
			if w.Far(n%all) != n-m.r || w.In(n%all) != in || w.Is(n%all) != (in && m.whole[n]) {
				t.Fatalf("%d: far %d, in %v, whole %v", n, w.Far(n%all), w.In(n%all), w.Is(n%all))
			}
			switch what := r.Intn(60); {
			case what == 0:
				w.Reset()
				*m, told = model{all: all, size: size, whole: map[int]bool{}}, 0
				met["reset"]++
			case what < 15 && n > m.h:
				wantNotLate(t, w, n%all, api.ErrWindow)
				met["late beyond"]++
			case what < 15:
				wantLate(t, w, n%all)
				m.late(n)
				met["late"]++
			case !in:
				wantNo(t, w, n%all, api.ErrWindow, api.ErrWindow)
				met["beyond"]++
			case what < 25:
				wantCame(t, w, n%all)
				m.came(n)
				met["came"]++
			case m.whole[n]:
				wantNotWhole(t, w, n%all, api.ErrTwice)
				met["twice"]++
			default:
				past := m.becomeWhole(n)
				for _, n := range past {
					if n != told%all {
						t.Fatalf("told %v, and %d was next", past, told%all)
					}
					told++
				}
				wantWhole(t, w, n%all, past...)
				met["whole"]++
			}
			if m.ms < m.r || m.ms > m.h || m.h > m.r+size {
				t.Fatalf("R %d, MS %d, H %d", m.r, m.ms, m.h)
			}
		}
	}
	for _, what := range []string{"reset", "late beyond", "late", "beyond", "came", "twice", "whole"} {
		if met[what] < 100 {
			t.Errorf("%s: met %d times", what, met[what])
		}
	}
}

// TestToldOnceInOrder: in whatever order numbers become whole, each is told once, in order.
func TestToldOnceInOrder(t *testing.T) {
	for seed := range int64(60) {
		r := rand.New(rand.NewSource(seed))
		bits := 1 + int(seed%10)
		all := 1 << bits
		size := 1 + r.Intn(all/2)
		w := of(t, bits, size)
		next := 0
		for range 20 {
			from, many := next, r.Intn(size+1)
			for _, i := range r.Perm(many) {
				l, e := w.Whole((from + i) % all)
				if e != api.OK {
					t.Fatal(e)
				}
				for _, n := range l {
					if n != next%all {
						t.Fatalf("told %d, want %d", n, next%all)
					}
					next++
				}
				wantNotWhole(t, w, (from+i)%all, map[bool]api.Errno{true: api.ErrWindow, false: api.ErrTwice}[from+i < next])
			}
			if next != from+many {
				t.Fatalf("told up to %d, want %d", next, from+many)
			}
			wantState(t, w, at(next%all, next%all, next%all))
		}
	}
}

// rule 5 of the document

func TestWhatIsHandedOutIsNewMemory(t *testing.T) {
	w := of(t, 5, 16)
	for _, n := range []int{5, 1, 2, 4} {
		wantWhole(t, w, n)
	}
	wantCame(t, w, 8)
	wantLate(t, w, 9)
	l := w.Missing()
	if len(l) != 5 || cap(l) != 5 {
		t.Fatalf("Missing: %v, room for %d", l, cap(l))
	}
	l[0], l[1] = 7, 8
	wantState(t, w, at(0, 9, 9, 0, 3, 6, 7, 8))
	wantWhole(t, w, 3)
	l, _ = w.Whole(0)
	if len(l) != 6 || cap(l) != 6 {
		t.Fatalf("Whole: %v, room for %d", l, cap(l))
	}
	l[0], l[1] = 7, 8
	wantState(t, w, at(6, 9, 9, 6, 7, 8))
}

func TestWindowsAreTheirOwn(t *testing.T) {
	a, b := of(t, 5, 16), of(t, 5, 16)
	wantWhole(t, a, 1)
	wantState(t, b, state{})
	wantWhole(t, b, 0, 0)
	wantState(t, a, at(0, 0, 2))
	a.Reset()
	wantState(t, b, at(1, 1, 1))
}
