package txwin_test

import (
	"math"
	"math/rand"
	"reflect"
	"slices"
	"testing"

	"bowline/api"
	"bowline/txwin"
)

// noNumbers is what is a number of no space.
var noNumbers = []int{-1, -2, 1 << 16, 1<<16 + 1, 1 << 32, math.MinInt, math.MaxInt}

// of is a window.
func of(t *testing.T, bits, size int) *txwin.Window {
	t.Helper()
	w, e := txwin.New(bits, size)
	if w == nil || e != api.OK {
		t.Fatalf("New(%d, %d): %v", bits, size, e)
	}
	return w
}

// state is what there is to ask of a window.
type state struct {
	first, next int
	stalled     bool
	open        []int
}

func (a state) is(b state) bool {
	return a.first == b.first && a.next == b.next && a.stalled == b.stalled && slices.Equal(a.open, b.open)
}

func stateOf(w *txwin.Window) state {
	first, next := w.Ends()
	return state{first, next, w.Stalled(), w.All()}
}

func wantState(t *testing.T, w *txwin.Window, want state) {
	t.Helper()
	if s := stateOf(w); !s.is(want) {
		t.Fatalf("state %+v, want %+v", s, want)
	}
}

func wantNext(t *testing.T, w *txwin.Window, want int) {
	t.Helper()
	if n, e := w.Next(); n != want || e != api.OK {
		t.Fatalf("Next: %d %v, want %d", n, e, want)
	}
	if !w.Open(want) {
		t.Fatalf("%d is not open", want)
	}
}

// wantNexts lets so many numbers be sent.
func wantNexts(t *testing.T, w *txwin.Window, size, many int) {
	t.Helper()
	_, next := w.Ends()
	for i := range many {
		wantNext(t, w, (next+i)%size)
	}
}

func wantNoNext(t *testing.T, w *txwin.Window, want api.Errno) {
	t.Helper()
	before := stateOf(w)
	if n, e := w.Next(); n != 0 || e != want {
		t.Fatalf("Next: %d %v, want %v", n, e, want)
	}
	wantState(t, w, before)
}

func wantAck(t *testing.T, w *txwin.Window, n int) {
	t.Helper()
	if e := w.Ack(n); e != api.OK {
		t.Fatalf("Ack(%d): %v", n, e)
	}
	if w.Open(n) {
		t.Fatalf("%d is open yet", n)
	}
}

func wantNoAck(t *testing.T, w *txwin.Window, n int, want api.Errno) {
	t.Helper()
	before := stateOf(w)
	if e := w.Ack(n); e != want {
		t.Fatalf("Ack(%d): %v, want %v", n, e, want)
	}
	wantState(t, w, before)
}

// P18.1

func TestNew(t *testing.T) {
	for bits := 1; bits <= 16; bits++ {
		half := 1 << bits / 2
		for _, size := range []int{1, (half + 1) / 2, half} {
			wantState(t, of(t, bits, size), state{})
		}
		for _, size := range []int{0, -1, half + 1, 2 * half, math.MinInt, math.MaxInt, 1<<32 + 1} {
			if w, e := txwin.New(bits, size); w != nil || e != api.ErrArg {
				t.Errorf("New(%d, %d): %v %v", bits, size, w != nil, e)
			}
		}
	}
	for _, bits := range []int{0, -1, 17, 64, 1<<32 + 5, math.MinInt, math.MaxInt} {
		for _, size := range []int{-1, 0, 1, 2, 1 << 15, 1 << 16} {
			if w, e := txwin.New(bits, size); w != nil || e != api.ErrArg {
				t.Errorf("New(%d, %d): %v %v", bits, size, w != nil, e)
			}
		}
	}
}

func TestNoWindow(t *testing.T) {
	for _, w := range []*txwin.Window{nil, {}} {
		for range 2 {
			wantState(t, w, state{})
			wantNoNext(t, w, api.ErrNil)
			for _, n := range append(noNumbers, 0, 1, 5) {
				wantNoAck(t, w, n, api.ErrNil)
				if w.Open(n) || w.Far(n) != 0 {
					t.Errorf("%d: open %v, far %d", n, w.Open(n), w.Far(n))
				}
			}
			w.Reset()
		}
	}
}

func TestCalls(t *testing.T) {
	var names []string
	for m := range reflect.TypeFor[*txwin.Window]().Methods() {
		names = append(names, m.Name)
	}
	want := []string{"Ack", "All", "Ends", "Far", "Next", "Open", "Reset", "Stalled"}
	if !slices.Equal(names, want) {
		t.Errorf("the calls %v, want %v", names, want)
	}
}

func TestFar(t *testing.T) {
	w := of(t, 5, 16)
	far := func(first int) {
		t.Helper()
		for n := range 32 {
			if f := w.Far(n); f != (n-first+32)%32 {
				t.Errorf("Far(%d): %d, of %d", n, f, first)
			}
		}
		for _, n := range append(noNumbers, 32, 33, 64) {
			if f := w.Far(n); f != -1 {
				t.Errorf("Far(%d): %d", n, f)
			}
		}
	}
	far(0)
	for i := range 40 {
		wantNexts(t, w, 32, 1)
		far(i % 32)
		wantAck(t, w, i%32)
		far((i + 1) % 32)
	}
}

func TestOpen(t *testing.T) {
	w := of(t, 5, 16)
	wantNexts(t, w, 32, 5)
	wantAck(t, w, 3)
	wantState(t, w, state{0, 5, false, []int{0, 1, 2, 4}})
	wantAck(t, w, 0)
	wantState(t, w, state{1, 5, false, []int{1, 2, 4}})
	for n := range 32 {
		if open := n == 1 || n == 2 || n == 4; w.Open(n) != open {
			t.Errorf("Open(%d): %v", n, w.Open(n))
		}
	}
	for _, n := range append(noNumbers, 32, 33, 34, 36) {
		if w.Open(n) {
			t.Errorf("%d is open", n)
		}
	}
}

// TestWidest: as many open ones as may be, of the widest space.
func TestWidest(t *testing.T) {
	const size = 1 << 15
	w := of(t, 16, size)
	wantNexts(t, w, 1<<16, size)
	wantNoNext(t, w, api.ErrWindow)
	all := w.All()
	if len(all) != size || !w.Stalled() {
		t.Fatalf("%d are open, stalled %v", len(all), w.Stalled())
	}
	for i, n := range all {
		if i != n {
			t.Fatalf("the open one %d is %d", i, n)
		}
	}
	for n := size - 1; n > 0; n-- {
		wantAck(t, w, n)
	}
	wantState(t, w, state{0, size, true, []int{0}})
	wantNoNext(t, w, api.ErrWindow)
	wantAck(t, w, 0)
	wantState(t, w, state{size, size, false, nil})
	wantNexts(t, w, 1<<16, size)
	wantNoNext(t, w, api.ErrWindow)
	if first, next := w.Ends(); first != size || next != 0 {
		t.Errorf("Ends: %d, %d", first, next)
	}
}

// P18.2

func TestExample(t *testing.T) {
	w := of(t, 10, 512)
	wantNexts(t, w, 1024, 3)
	wantAck(t, w, 1)
	wantState(t, w, state{0, 3, false, []int{0, 2}})
	wantAck(t, w, 0)
	wantState(t, w, state{2, 3, false, []int{2}})
}

func TestStalls(t *testing.T) {
	w := of(t, 10, 3)
	wantNexts(t, w, 1024, 2)
	wantState(t, w, state{0, 2, false, []int{0, 1}})
	wantNext(t, w, 2)
	wantState(t, w, state{0, 3, true, []int{0, 1, 2}})
	wantNoNext(t, w, api.ErrWindow)
	// what is acknowledged behind the first one lets nothing more be sent
	wantAck(t, w, 1)
	wantNoNext(t, w, api.ErrWindow)
	wantAck(t, w, 2)
	wantNoNext(t, w, api.ErrWindow)
	wantAck(t, w, 0)
	wantState(t, w, state{3, 3, false, nil})
	wantNexts(t, w, 1024, 3)
	wantState(t, w, state{3, 6, true, []int{3, 4, 5}})
}

func TestWrongAcks(t *testing.T) {
	w := of(t, 5, 16)
	refused := func(old ...int) {
		t.Helper()
		for _, n := range append(noNumbers, 32, 33) {
			wantNoAck(t, w, n, api.ErrArg)
		}
		for _, n := range old {
			wantNoAck(t, w, n, api.ErrOld)
		}
	}
	refused(0, 1, 31)
	wantNexts(t, w, 32, 4)
	refused(4, 5, 31)
	wantAck(t, w, 2)
	refused(2, 4, 31)
	wantAck(t, w, 0)
	refused(0, 2, 4, 31)
	wantAck(t, w, 1)
	refused(0, 1, 2, 4, 31)
	wantState(t, w, state{3, 4, false, []int{3}})
	wantAck(t, w, 3)
	refused(0, 1, 2, 3, 4)
}

// TestAckedIsForgotten: a number that went round is open anew.
func TestAckedIsForgotten(t *testing.T) {
	for _, bits := range []int{1, 2, 5} {
		all := 1 << bits
		size := all / 2
		w := of(t, bits, size)
		for round := range 5 * all {
			first := round * size % all
			wantState(t, w, state{first, first, false, nil})
			wantNexts(t, w, all, size)
			wantNoNext(t, w, api.ErrWindow)
			for i := size - 1; i >= 0; i-- {
				wantAck(t, w, (first+i)%all)
				wantNoAck(t, w, (first+i)%all, api.ErrOld)
			}
		}
	}
}

func TestReset(t *testing.T) {
	w := of(t, 5, 4)
	w.Reset()
	wantState(t, w, state{})
	wantNexts(t, w, 32, 4)
	wantAck(t, w, 0)
	wantAck(t, w, 2)
	wantState(t, w, state{1, 4, false, []int{1, 3}})
	w.Reset()
	wantState(t, w, state{})
	wantNoAck(t, w, 1, api.ErrOld)
	// what was acknowledged is open anew, and the size is as it was
	wantNexts(t, w, 32, 4)
	wantState(t, w, state{0, 4, true, []int{0, 1, 2, 3}})
	wantNoNext(t, w, api.ErrWindow)
	wantAck(t, w, 0)
	wantState(t, w, state{1, 4, false, []int{1, 2, 3}})
	w.Reset()
	w.Reset()
	wantState(t, w, state{})
}

// P18.3, P18.4

// TestModel holds windows against a list of what is open.
func TestModel(t *testing.T) {
	for seed := range int64(200) {
		r := rand.New(rand.NewSource(seed))
		bits := []int{1, 2, 3, 5, 10, 16}[seed%6]
		all := 1 << bits
		size := 1 + r.Intn(min(all/2, 40))
		w, open, next := of(t, bits, size), []int(nil), 0
		for range 600 {
			first := next
			if len(open) > 0 {
				first = open[0]
			}
			stalled := (next-first+all)%all == size
			wantState(t, w, state{first, next, stalled, open})
			if len(open) > size {
				t.Fatalf("%d are open", len(open))
			}
			switch n := (first + r.Intn(size+3) - 1 + all) % all; {
			case r.Intn(80) == 0:
				w.Reset()
				open, next = nil, 0
			case r.Intn(2) == 0 && stalled:
				wantNoNext(t, w, api.ErrWindow)
			case r.Intn(3) > 0 && !stalled:
				wantNext(t, w, next)
				open, next = append(open, next), (next+1)%all
			case !slices.Contains(open, n):
				wantNoAck(t, w, n, api.ErrOld)
			default:
				wantAck(t, w, n)
				open = slices.DeleteFunc(open, func(m int) bool { return m == n })
			}
		}
	}
}

// TestBothEndsMeet: in whatever order all are acknowledged.
func TestBothEndsMeet(t *testing.T) {
	for seed := range int64(60) {
		r := rand.New(rand.NewSource(seed))
		bits := 1 + int(seed%10)
		all := 1 << bits
		size := 1 + r.Intn(all/2)
		w := of(t, bits, size)
		for range 20 {
			_, from := w.Ends()
			many := r.Intn(size + 1)
			wantNexts(t, w, all, many)
			for i, at := range r.Perm(many) {
				wantAck(t, w, (from+at)%all)
				if l := w.All(); len(l) != many-i-1 {
					t.Fatalf("%d are open of %d", len(l), many-i-1)
				}
			}
			end := (from + many) % all
			wantState(t, w, state{end, end, false, nil})
		}
	}
}

// rule 5 of the document

func TestWhatIsHandedOutIsNewMemory(t *testing.T) {
	w := of(t, 5, 16)
	wantNexts(t, w, 32, 3)
	l := w.All()
	if len(l) != 3 || cap(l) != 3 {
		t.Fatalf("All: %v, room for %d", l, cap(l))
	}
	l[0], l[1] = 7, 8
	wantState(t, w, state{0, 3, false, []int{0, 1, 2}})
}

func TestWindowsAreTheirOwn(t *testing.T) {
	a, b := of(t, 5, 16), of(t, 5, 16)
	wantNexts(t, a, 32, 3)
	wantState(t, b, state{})
	wantNexts(t, b, 32, 2)
	wantAck(t, b, 0)
	wantState(t, a, state{0, 3, false, []int{0, 1, 2}})
	a.Reset()
	wantState(t, b, state{1, 2, false, []int{1}})
}
