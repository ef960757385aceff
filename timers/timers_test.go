package timers_test

import (
	"math"
	"math/rand"
	"slices"
	"testing"

	"bowline/api"
	"bowline/timers"
)

// none is numbers of no timer.
var none = []int{math.MinInt, -9, -8, -1, api.MaxTimers, api.MaxTimers + 1, 100, 1 << 32, math.MaxInt}

// wrong is ticks that may not be.
var wrong = []int{math.MinInt, -1000, -1, 0, api.MaxTicks + 1, 2 * api.MaxTicks, 1<<32 + 1, math.MaxInt}

func wantStart(t *testing.T, s *timers.Set, i, ticks int, want api.Errno) {
	t.Helper()
	if e := s.Start(i, ticks); e != want {
		t.Fatalf("Start(%d, %d): %v, want %v", i, ticks, e, want)
	}
}

func wantStop(t *testing.T, s *timers.Set, i int, want api.Errno) {
	t.Helper()
	if e := s.Stop(i); e != want {
		t.Fatalf("Stop(%d): %v, want %v", i, e, want)
	}
}

func wantTick(t *testing.T, s *timers.Set, want ...int) {
	t.Helper()
	if l := s.Tick(); !slices.Equal(l, want) {
		t.Fatalf("Tick: %v, want %v", l, want)
	}
}

// wantLeft asks for all that a set tells: the ticks left of each timer.
func wantLeft(t *testing.T, s *timers.Set, want [api.MaxTimers]int) {
	t.Helper()
	var run []int
	for i, left := range want {
		if s.Left(i) != left {
			t.Fatalf("Left(%d): %d, want %d", i, s.Left(i), left)
		}
		if left > 0 {
			run = append(run, i)
		}
	}
	if l := s.Running(); !slices.Equal(l, run) {
		t.Fatalf("Running: %v, want %v", l, run)
	}
	for _, i := range none {
		if s.Left(i) != 0 {
			t.Fatalf("Left(%d): %d, want 0", i, s.Left(i))
		}
	}
}

// started is a set whose timers have so many ticks left; those of 0 do not run.
func started(t *testing.T, left ...int) *timers.Set {
	t.Helper()
	s := timers.New()
	for i, ticks := range left {
		if ticks != 0 {
			wantStart(t, s, i, ticks, api.OK)
		}
	}
	return s
}

// P5.1

func TestNewRunsNone(t *testing.T) {
	s := timers.New()
	if s == nil {
		t.Fatal("New: nil")
	}
	wantLeft(t, s, [api.MaxTimers]int{})
	wantTick(t, s)
	wantLeft(t, s, [api.MaxTimers]int{})
}

func TestSetsDoNotTouchEachOther(t *testing.T) {
	a, b := timers.New(), timers.New()
	wantStart(t, a, 3, 2, api.OK)
	wantLeft(t, b, [api.MaxTimers]int{})
	wantTick(t, b)
	wantLeft(t, a, [api.MaxTimers]int{3: 2})
	b.Clear()
	wantLeft(t, a, [api.MaxTimers]int{3: 2})
}

func TestNilAndUnmade(t *testing.T) {
	var declared timers.Set
	for _, s := range []*timers.Set{nil, {}, &declared, new(timers.Set)} {
		for i := -2; i < api.MaxTimers+2; i++ {
			wantStart(t, s, i, 5, api.ErrNil)
			wantStop(t, s, i, api.ErrNil)
		}
		for _, i := range none {
			wantStart(t, s, i, 5, api.ErrNil)
			wantStop(t, s, i, api.ErrNil)
		}
		for _, ticks := range wrong {
			wantStart(t, s, 0, ticks, api.ErrNil)
		}
		wantLeft(t, s, [api.MaxTimers]int{})
		for range 6 {
			wantTick(t, s)
		}
		s.Clear()
		wantStart(t, s, 0, 1, api.ErrNil)
		wantLeft(t, s, [api.MaxTimers]int{})
	}
}

func TestLeftAndRunning(t *testing.T) {
	s := started(t, 1, 0, api.MaxTicks, 0, 0, 7, 0, 999)
	wantLeft(t, s, [api.MaxTimers]int{1, 0, api.MaxTicks, 0, 0, 7, 0, 999})
	// rising, in whatever order they were started
	s = timers.New()
	for _, i := range []int{6, 0, 7, 3, 5} {
		wantStart(t, s, i, 10+i, api.OK)
	}
	wantLeft(t, s, [api.MaxTimers]int{10, 0, 0, 13, 0, 15, 16, 17})
}

func TestAllRun(t *testing.T) {
	s := started(t, 1, 2, 3, 4, 5, 6, 7, 8)
	wantLeft(t, s, [api.MaxTimers]int{1, 2, 3, 4, 5, 6, 7, 8})
}

// P5.2

func TestStart(t *testing.T) {
	for i := range api.MaxTimers {
		for _, ticks := range []int{1, 2, 500, api.MaxTicks - 1, api.MaxTicks} {
			s := timers.New()
			wantStart(t, s, i, ticks, api.OK)
			var want [api.MaxTimers]int
			want[i] = ticks
			wantLeft(t, s, want)
		}
	}
}

func TestStartWhateverItDid(t *testing.T) {
	s := started(t, 0, 0, 0, 0, 9)
	wantStart(t, s, 4, 3, api.OK)
	wantLeft(t, s, [api.MaxTimers]int{4: 3})
	wantTick(t, s)
	wantStart(t, s, 4, api.MaxTicks, api.OK)
	wantLeft(t, s, [api.MaxTimers]int{4: api.MaxTicks})
	wantStart(t, s, 4, 1, api.OK)
	wantTick(t, s, 4)
	wantStart(t, s, 4, 1, api.OK)
	wantTick(t, s, 4)
	wantStart(t, s, 4, 5, api.OK)
	wantStop(t, s, 4, api.OK)
	wantStart(t, s, 4, 2, api.OK)
	wantLeft(t, s, [api.MaxTimers]int{4: 2})
}

func TestWrongArgumentsChangeNothing(t *testing.T) {
	all := [api.MaxTimers]int{1, 2, 3, 0, 5, 6, 7, api.MaxTicks}
	s := started(t, all[:]...)
	for _, i := range none {
		for _, ticks := range append([]int{1, 5, api.MaxTicks}, wrong...) {
			wantStart(t, s, i, ticks, api.ErrArg)
		}
		wantStop(t, s, i, api.ErrArg)
	}
	for i := range api.MaxTimers {
		for _, ticks := range wrong {
			wantStart(t, s, i, ticks, api.ErrArg)
		}
	}
	wantLeft(t, s, all)
	wantTick(t, s, 0)
}

func TestStop(t *testing.T) {
	s := started(t, 4, 1, 1, 0, 5)
	wantStop(t, s, 1, api.OK)
	wantLeft(t, s, [api.MaxTimers]int{4, 0, 1, 0, 5})
	wantTick(t, s, 2)
	// one that does not run may be stopped all the same
	for _, i := range []int{1, 2, 3, 7} {
		wantStop(t, s, i, api.OK)
	}
	wantLeft(t, s, [api.MaxTimers]int{3, 0, 0, 0, 4})
	wantStop(t, s, 0, api.OK)
	wantStop(t, s, 4, api.OK)
	wantLeft(t, s, [api.MaxTimers]int{})
	for range 6 {
		wantTick(t, s)
	}
}

func TestTick(t *testing.T) {
	s := timers.New()
	wantStart(t, s, 3, 1, api.OK)
	wantTick(t, s, 3)
	wantLeft(t, s, [api.MaxTimers]int{})
	wantTick(t, s)

	s = started(t, 3, 1, 2, 1, 0, 3, 5, 1)
	wantTick(t, s, 1, 3, 7)
	wantLeft(t, s, [api.MaxTimers]int{2, 0, 1, 0, 0, 2, 4, 0})
	wantTick(t, s, 2)
	wantLeft(t, s, [api.MaxTimers]int{1, 0, 0, 0, 0, 1, 3, 0})
	wantTick(t, s, 0, 5)
	wantLeft(t, s, [api.MaxTimers]int{6: 2})
	wantTick(t, s)
	wantTick(t, s, 6)
	wantTick(t, s)
}

func TestTickTellsAllRising(t *testing.T) {
	s := timers.New()
	for _, i := range []int{5, 2, 7, 0, 6, 1, 4, 3} {
		wantStart(t, s, i, 1, api.OK)
	}
	wantTick(t, s, 0, 1, 2, 3, 4, 5, 6, 7)
	wantLeft(t, s, [api.MaxTimers]int{})
}

func TestClear(t *testing.T) {
	s := started(t, 1, 2, 3, 4, 5, 6, 7, api.MaxTicks)
	s.Clear()
	wantLeft(t, s, [api.MaxTimers]int{})
	for range 8 {
		wantTick(t, s)
	}
	s.Clear()
	wantLeft(t, s, [api.MaxTimers]int{})
	// it is a set as before
	wantStart(t, s, 2, 1, api.OK)
	wantTick(t, s, 2)
}

// P5.3

func TestToldJustOnce(t *testing.T) {
	for i := range api.MaxTimers {
		for _, ticks := range []int{1, 2, 3, 7, 8, 9, 63, 64, 65, 499, 500, 998, 999, api.MaxTicks} {
			s := timers.New()
			// what the others do is of no matter
			other := (i + 3) % api.MaxTimers
			wantStart(t, s, other, api.MaxTicks, api.OK)
			wantStart(t, s, i, ticks, api.OK)
			for n := 1; n <= api.MaxTicks+50; n++ {
				told := s.Tick()
				if slices.Contains(told, i) != (n == ticks) {
					t.Fatalf("the timer %d of %d ticks: Tick number %d tells %v", i, ticks, n, told)
				}
				if left := max(ticks-n, 0); s.Left(i) != left {
					t.Fatalf("the timer %d of %d ticks, behind Tick number %d: Left %d, want %d", i, ticks, n, s.Left(i), left)
				}
				if n%5 == 0 {
					wantStop(t, s, other, api.OK)
					wantStart(t, s, other, 2, api.OK)
				}
			}
		}
	}
}

// ends is a set found in another way: the tick at which each timer ends, 0 if it does not run.
type ends struct {
	now int
	at  [api.MaxTimers]int
}

func (m *ends) tick() []int {
	m.now++
	var told []int
	for i, at := range m.at {
		if at == m.now {
			told = append(told, i)
			m.at[i] = 0
		}
	}
	return told
}

func (m *ends) left() [api.MaxTimers]int {
	var l [api.MaxTimers]int
	for i, at := range m.at {
		if at > 0 {
			l[i] = at - m.now
		}
	}
	return l
}

func TestAgainstTheTicksAtWhichTheyEnd(t *testing.T) {
	for seed := range int64(40) {
		r := rand.New(rand.NewSource(seed))
		longest := []int{3, 12, api.MaxTicks}[seed%3]
		m, s := &ends{}, timers.New()
		for range 1500 {
			i := r.Intn(api.MaxTimers)
			switch k := r.Intn(100); {
			case k < 25:
				ticks := 1 + r.Intn(longest)
				wantStart(t, s, i, ticks, api.OK)
				m.at[i] = m.now + ticks
			case k < 35:
				wantStop(t, s, i, api.OK)
				m.at[i] = 0
			case k < 40:
				wantStart(t, s, none[r.Intn(len(none))], 1, api.ErrArg)
				wantStart(t, s, i, wrong[r.Intn(len(wrong))], api.ErrArg)
			case k < 41:
				s.Clear()
				m.at = [api.MaxTimers]int{}
			default:
				wantTick(t, s, m.tick()...)
			}
			wantLeft(t, s, m.left())
		}
	}
}

// rule 5 of the document

func TestWhatIsHandedOutIsNewMemory(t *testing.T) {
	s := started(t, 1, 1, 1, 1, 1, 4, 4)
	run := s.Running()
	told := s.Tick()
	for _, l := range [][]int{run, told} {
		if cap(l) != len(l) {
			t.Errorf("%v has room for %d behind", l, cap(l)-len(l))
		}
		for i := range l {
			l[i] = 7
		}
	}
	wantLeft(t, s, [api.MaxTimers]int{5: 3, 6: 3})
	later := s.Running()
	wantTick(t, s)
	wantTick(t, s)
	wantTick(t, s, 5, 6)
	if !slices.Equal(later, []int{5, 6}) || !slices.Equal(told, []int{7, 7, 7, 7, 7}) {
		t.Errorf("a later call changes what was handed out: %v %v", later, told)
	}
}
