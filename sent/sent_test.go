package sent_test

import (
	"math"
	"math/rand"
	"reflect"
	"slices"
	"testing"

	"bowline/amd"
	"bowline/api"
	"bowline/sent"
	"bowline/spans"
)

const most = 32768 // packets of a store

var (
	widths = []int{10, 16}
	// wrong is widths that may not be.
	wrong = []int{0, 1, 5, 8, 9, 11, 15, 17, 64, -1, -10, -16, math.MinInt, math.MaxInt, 10 + 1<<32}
	// noNumbers is what is a number of no space.
	noNumbers = []int{-1, -2, 1 << 16, 1<<16 + 1, 1 << 32, math.MinInt, math.MaxInt}
)

// of is a store.
func of(t *testing.T, width int) *sent.Store {
	t.Helper()
	s, e := sent.New(width)
	if s == nil || e != api.OK {
		t.Fatalf("New(%d): %v", width, e)
	}
	return s
}

// packet is a packet with fields of some lengths.
func packet(sn int, lengths ...int) amd.Packet {
	p := amd.Packet{FI: sn & 3, SN: sn, Poll: sn%2 == 0}
	for i, n := range lengths {
		field := make([]byte, n)
		for j := range field {
			field[j] = byte(sn + 31*i + 7*j)
		}
		p.Fields = append(p.Fields, field)
	}
	return p
}

// alike is so many times the same number.
func alike(n, many int) []int { return slices.Repeat([]int{n}, many) }

// state is all that a store tells of some packets.
type state struct {
	numbers, dues []int
	bytes         int
	packets       []amd.Packet
	due           [][]spans.Span
	counts        []int
}

func (a state) is(b state) bool {
	return slices.Equal(a.numbers, b.numbers) && slices.Equal(a.dues, b.dues) && a.bytes == b.bytes &&
		slices.EqualFunc(a.packets, b.packets, amd.Same) && slices.EqualFunc(a.due, b.due, slices.Equal) &&
		slices.Equal(a.counts, b.counts)
}

func stateOf(t *testing.T, s *sent.Store) state {
	t.Helper()
	got := state{numbers: s.Numbers(), dues: s.Dues(), bytes: s.Bytes()}
	for _, sn := range got.numbers {
		p, is := s.Get(sn)
		if !is || p.SN != sn {
			t.Fatalf("Get(%d): %v %v", sn, p, is)
		}
		got.packets = append(got.packets, p)
		got.due = append(got.due, s.Due(sn))
		got.counts = append(got.counts, s.Count(sn))
	}
	return got
}

func wantState(t *testing.T, s *sent.Store, want state) {
	t.Helper()
	if got := stateOf(t, s); !got.is(want) {
		t.Fatalf("the store has %v, want %v", got, want)
	}
}

func wantPut(t *testing.T, s *sent.Store, p amd.Packet) {
	t.Helper()
	if e := s.Put(p); e != api.OK {
		t.Fatalf("Put(%v): %v", p, e)
	}
	if q, is := s.Get(p.SN); !is || !amd.Same(p, q) {
		t.Fatalf("Get(%d): %v %v, want %v", p.SN, q, is, p)
	}
	if due, n := s.Due(p.SN), s.Count(p.SN); len(due) != 0 || n != 0 {
		t.Fatalf("of %d are due at first: %v, considered %d times", p.SN, due, n)
	}
}

func wantNoPut(t *testing.T, s *sent.Store, p amd.Packet, want api.Errno) {
	t.Helper()
	if e := s.Put(p); e != want {
		t.Fatalf("Put(%v): %v, want %v", p, e, want)
	}
}

func wantAgain(t *testing.T, s *sent.Store, sn, from, to, want int) {
	t.Helper()
	if n, e := s.Again(sn, from, to); n != want || e != api.OK {
		t.Fatalf("Again(%d, %d, %d): %d %v, want %d", sn, from, to, n, e, want)
	}
	if n := s.Count(sn); n != want {
		t.Fatalf("Count(%d): %d, want %d", sn, n, want)
	}
}

func wantSent(t *testing.T, s *sent.Store, sn, from, to int) {
	t.Helper()
	n := s.Count(sn)
	if e := s.Sent(sn, from, to); e != api.OK {
		t.Fatalf("Sent(%d, %d, %d): %v", sn, from, to, e)
	}
	if m := s.Count(sn); m != n {
		t.Fatalf("Sent(%d, %d, %d) considers it: %d, %d ahead of it", sn, from, to, m, n)
	}
}

// wantNeither wants that Again and Sent refuse, and that nothing changes.
func wantNeither(t *testing.T, s *sent.Store, sn, from, to int, want api.Errno) {
	t.Helper()
	before := stateOf(t, s)
	if n, e := s.Again(sn, from, to); n != 0 || e != want {
		t.Fatalf("Again(%d, %d, %d): %d %v, want %v", sn, from, to, n, e, want)
	}
	if e := s.Sent(sn, from, to); e != want {
		t.Fatalf("Sent(%d, %d, %d): %v, want %v", sn, from, to, e, want)
	}
	wantState(t, s, before)
}

func wantDrop(t *testing.T, s *sent.Store, sn int) {
	t.Helper()
	if e := s.Drop(sn); e != api.OK {
		t.Fatalf("Drop(%d): %v", sn, e)
	}
	wantNone(t, s, sn)
}

// wantNone wants that there is no packet of a number.
func wantNone(t *testing.T, s *sent.Store, sn int) {
	t.Helper()
	if p, is := s.Get(sn); is || !amd.Same(p, amd.Packet{}) || p.Fields != nil {
		t.Fatalf("Get(%d): %v %v", sn, p, is)
	}
	if due, n := s.Due(sn), s.Count(sn); len(due) != 0 || n != 0 {
		t.Fatalf("%d: due %v, considered %d times", sn, due, n)
	}
}

func wantDue(t *testing.T, s *sent.Store, sn int, want ...spans.Span) {
	t.Helper()
	if due := s.Due(sn); !slices.Equal(due, want) {
		t.Fatalf("of %d are due %v, want %v", sn, due, want)
	}
}

// P19.1

func TestNew(t *testing.T) {
	for _, width := range widths {
		s := of(t, width)
		wantState(t, s, state{})
		for _, sn := range append(noNumbers, 0, 1, 1023) {
			wantNone(t, s, sn)
		}
	}
	for _, width := range wrong {
		if s, e := sent.New(width); s != nil || e != api.ErrKind {
			t.Errorf("New(%d): %v %v", width, s != nil, e)
		}
	}
}

func TestNoStore(t *testing.T) {
	for _, s := range []*sent.Store{nil, {}} {
		for range 2 {
			wantNoPut(t, s, packet(0, 1), api.ErrNil)
			wantNoPut(t, s, amd.Packet{}, api.ErrNil)
			wantState(t, s, state{})
			for _, sn := range append(noNumbers, 0, 1) {
				wantNone(t, s, sn)
				wantNeither(t, s, sn, 0, 0, api.ErrNil)
				wantNeither(t, s, sn, -1, 5, api.ErrNil)
				if e := s.Drop(sn); e != api.ErrNil {
					t.Errorf("Drop(%d): %v", sn, e)
				}
			}
			s.Clear()
		}
	}
}

func TestCalls(t *testing.T) {
	var names []string
	for m := range reflect.TypeFor[*sent.Store]().Methods() {
		names = append(names, m.Name)
	}
	want := []string{"Again", "Bytes", "Clear", "Count", "Drop", "Due", "Dues", "Get", "Numbers", "Put", "Sent"}
	if !slices.Equal(names, want) {
		t.Errorf("the calls %v, want %v", names, want)
	}
}

func TestRising(t *testing.T) {
	s := of(t, 16)
	numbers := []int{40000, 3, 65535, 0, 17, 1024, 512, 9}
	for i, sn := range numbers {
		wantPut(t, s, packet(sn, 4))
		sorted := slices.Sorted(slices.Values(numbers[:i+1]))
		if l := s.Numbers(); !slices.Equal(l, sorted) {
			t.Fatalf("Numbers: %v, want %v", l, sorted)
		}
		if l := s.Dues(); len(l) != 0 {
			t.Fatalf("Dues: %v", l)
		}
	}
	bytes := 0
	for i, at := range []int{5, 0, 3, 1, 7} {
		wantAgain(t, s, numbers[at], 0, i%4+1, 1)
		bytes += i%4 + 1
		if n := s.Bytes(); n != bytes {
			t.Fatalf("Bytes: %d, want %d", n, bytes)
		}
	}
	if l := s.Dues(); !slices.Equal(l, []int{0, 3, 9, 1024, 40000}) {
		t.Fatalf("Dues: %v", l)
	}
	wantSent(t, s, 9, 0, 0)
	wantDrop(t, s, 1024)
	if l := s.Dues(); !slices.Equal(l, []int{0, 3, 40000}) {
		t.Fatalf("Dues: %v", l)
	}
	if l := s.Numbers(); !slices.Equal(l, []int{0, 3, 9, 17, 512, 40000, 65535}) {
		t.Fatalf("Numbers: %v", l)
	}
}

func TestGet(t *testing.T) {
	s := of(t, 10)
	for sn := range 8 {
		p := packet(sn, alike(1+sn, 1+3*sn)...)
		wantPut(t, s, p)
		wantAgain(t, s, sn, 0, 1, 1)
		wantSent(t, s, sn, 0, 1)
		if q, is := s.Get(sn); !is || !amd.Same(p, q) {
			t.Errorf("Get(%d): %v %v, want %v", sn, q, is, p)
		}
	}
	for _, sn := range append(noNumbers, 8, 1023, 1024, 1024+3) {
		wantNone(t, s, sn)
	}
}

// P19.2

func TestWrongPackets(t *testing.T) {
	part := func(offset int, last bool) amd.Packet {
		p := packet(5, 4)
		p.Part, p.Offset, p.Last = true, offset, last
		return p
	}
	none := func(change func(p *amd.Packet)) amd.Packet {
		p := packet(5, 4)
		change(&p)
		return p
	}
	for _, width := range widths {
		s := of(t, width)
		wantPut(t, s, packet(5, 3))
		for _, p := range []amd.Packet{
			{},
			part(0, false), part(0, true), part(9, false), part(-1, true),
			none(func(p *amd.Packet) { p.Last = true }),
			none(func(p *amd.Packet) { p.Offset = 1 }),
			none(func(p *amd.Packet) { p.FI = 4 }),
			none(func(p *amd.Packet) { p.FI = -1 }),
			none(func(p *amd.Packet) { p.Fields = nil }),
			packet(5, 0), packet(5, 4, 0), packet(5, 0, 4),
			packet(5, alike(1, api.MaxFields+1)...),
			packet(5, api.MaxLen+1, 1),
			packet(5, api.MaxPDU),
			packet(-1, 4), packet(1<<width, 4), packet(1<<16, 4), packet(math.MaxInt, 4), packet(math.MinInt, 4),
		} {
			wantNoPut(t, s, p, api.ErrForm) // ahead of ErrTwice: there is one of its number
		}
		wantState(t, s, state{numbers: []int{5}, packets: []amd.Packet{packet(5, 3)}, due: [][]spans.Span{nil}, counts: []int{0}})
	}
	wantNoPut(t, of(t, 10), packet(1024, 4), api.ErrForm)
	wantPut(t, of(t, 10), packet(1023, 4))
	wantPut(t, of(t, 16), packet(1024, 4))
	wantPut(t, of(t, 16), packet(65535, 4))
	for _, width := range widths {
		wantPut(t, of(t, width), packet(5, api.MaxPDU-2-width/16))
		wantNoPut(t, of(t, width), packet(5, api.MaxPDU-1-width/16), api.ErrForm)
		wantPut(t, of(t, width), packet(5, alike(1, api.MaxFields)...))
	}
}

func TestTwice(t *testing.T) {
	s := of(t, 10)
	wantPut(t, s, packet(5, 3))
	wantAgain(t, s, 5, 1, 2, 1)
	before := stateOf(t, s)
	wantNoPut(t, s, packet(5, 3), api.ErrTwice)
	wantNoPut(t, s, packet(5, 9, 9), api.ErrTwice)
	wantState(t, s, before)
	wantPut(t, s, packet(6, 3))
	wantDrop(t, s, 5)
	wantPut(t, s, packet(5, 9, 9)) // it is as new: wantPut wants nothing due
	wantAgain(t, s, 5, 0, 0, 1)
}

func TestFull(t *testing.T) {
	s := of(t, 16)
	for i := range most {
		wantPut(t, s, packet(i*2, 2))
	}
	numbers := s.Numbers()
	if len(numbers) != most {
		t.Fatalf("%d packets", len(numbers))
	}
	for i, sn := range numbers {
		if sn != 2*i {
			t.Fatalf("the number %d is %d", i, sn)
		}
	}
	wantNoPut(t, s, packet(1, 2), api.ErrFull)
	wantNoPut(t, s, packet(65535, 2), api.ErrFull)
	wantNone(t, s, 1)
	// the errors that are named ahead of it come ahead of it
	wantNoPut(t, s, packet(4, 2), api.ErrTwice)
	wantNoPut(t, s, packet(1, 0), api.ErrForm)
	for i := range most {
		wantAgain(t, s, 2*i, 0, 0, 1)
	}
	if n, l := s.Bytes(), s.Dues(); n != 2*most || !slices.Equal(l, numbers) {
		t.Fatalf("%d bytes are due, of %d packets", n, len(l))
	}
	wantDrop(t, s, 65534)
	wantPut(t, s, packet(1, 2))
	wantNoPut(t, s, packet(3, 2), api.ErrFull)
	s.Clear()
	wantState(t, s, state{})
	wantPut(t, s, packet(3, 2))
}

func TestAllNumbersOfTen(t *testing.T) {
	s := of(t, 10)
	for sn := range 1024 {
		wantPut(t, s, packet(sn, 1))
	}
	for sn := range 1024 {
		wantNoPut(t, s, packet(sn, 1), api.ErrTwice)
	}
	if l := s.Numbers(); len(l) != 1024 {
		t.Errorf("%d packets", len(l))
	}
}

func TestDrop(t *testing.T) {
	s := of(t, 10)
	for sn := range 3 {
		wantPut(t, s, packet(sn, 4))
		wantAgain(t, s, sn, 0, 2+sn, 1)
	}
	for _, sn := range append(noNumbers, 3, 1023, 1024) {
		before := stateOf(t, s)
		if e := s.Drop(sn); e != api.ErrNone {
			t.Fatalf("Drop(%d): %v", sn, e)
		}
		wantState(t, s, before)
	}
	wantDrop(t, s, 1)
	if e := s.Drop(1); e != api.ErrNone {
		t.Fatalf("Drop: %v", e)
	}
	wantState(t, s, state{
		numbers: []int{0, 2}, dues: []int{0, 2}, bytes: 6,
		packets: []amd.Packet{packet(0, 4), packet(2, 4)},
		due:     [][]spans.Span{{{From: 0, To: 2}}, {{From: 0, To: 4}}},
		counts:  []int{1, 1},
	})
	wantNeither(t, s, 1, 0, 0, api.ErrNone)
}

func TestClear(t *testing.T) {
	s := of(t, 10)
	s.Clear()
	wantState(t, s, state{})
	for sn := range 5 {
		wantPut(t, s, packet(sn, 4))
		wantAgain(t, s, sn, sn%2, 4, 1)
	}
	s.Clear()
	wantState(t, s, state{})
	for sn := range 5 {
		wantNone(t, s, sn)
		wantNeither(t, s, sn, 0, 0, api.ErrNone)
		wantPut(t, s, packet(sn, 4))
	}
	wantNoPut(t, s, packet(1024, 4), api.ErrForm) // the width is as it was
}

// P19.3

func TestExample(t *testing.T) {
	s := of(t, 10)
	wantPut(t, s, packet(5, 3, 4))
	wantAgain(t, s, 5, 0, 0, 1)
	wantAgain(t, s, 5, 0, 0, 1)
	wantSent(t, s, 5, 2, 3)
	wantAgain(t, s, 5, 2, 3, 2)
}

func TestPlaces(t *testing.T) {
	for _, c := range []struct{ from, to, last int }{
		{0, 0, 7}, {0, 7, 7}, {0, 8, 7}, {0, math.MaxInt, 7}, {0, 1, 1}, {0, 6, 6},
		{1, 0, 7}, {1, 2, 2}, {3, 7, 7}, {6, 0, 7}, {6, 7, 7}, {6, 9, 7}, {6, 1 << 40, 7},
	} {
		s := of(t, 10)
		wantPut(t, s, packet(5, 3, 4))
		wantAgain(t, s, 5, c.from, c.to, 1)
		wantDue(t, s, 5, spans.Span{From: c.from, To: c.last})
		if n := s.Bytes(); n != c.last-c.from {
			t.Errorf("%d bytes are due from %d to %d", n, c.from, c.last)
		}
		wantSent(t, s, 5, c.from, c.to)
		wantDue(t, s, 5)
		wantAgain(t, s, 5, 0, 0, 2)
		wantSent(t, s, 5, c.from, c.to)
		var left []spans.Span
		if c.from > 0 {
			left = append(left, spans.Span{From: 0, To: c.from})
		}
		if c.last < 7 {
			left = append(left, spans.Span{From: c.last, To: 7})
		}
		wantDue(t, s, 5, left...)
	}
}

func TestWrongPlaces(t *testing.T) {
	s := of(t, 10)
	wantPut(t, s, packet(5, 3, 4))
	wantAgain(t, s, 5, 2, 4, 1)
	for _, c := range [][2]int{
		{-1, 0}, {-1, 5}, {-1, 9}, {math.MinInt, 0}, {math.MinInt, math.MaxInt},
		{0, -1}, {3, -1}, {0, math.MinInt}, {-1, -1},
		{1, 1}, {3, 2}, {7, 7}, {7, 0}, {7, 8}, {8, 0}, {8, 9}, {7, math.MaxInt}, {math.MaxInt, 0}, {math.MaxInt, math.MaxInt},
	} {
		wantNeither(t, s, 5, c[0], c[1], api.ErrArg)
		// that there is none comes ahead of it
		for _, sn := range append(noNumbers, 4, 6, 1024+5) {
			wantNeither(t, s, sn, c[0], c[1], api.ErrNone)
		}
	}
	wantNeither(t, s, 4, 0, 0, api.ErrNone)
	wantNeither(t, s, 6, 2, 4, api.ErrNone)
}

// TestShortest: a packet with a byte.
func TestShortest(t *testing.T) {
	s := of(t, 16)
	wantPut(t, s, packet(9, 1))
	wantNeither(t, s, 9, 1, 0, api.ErrArg)
	wantNeither(t, s, 9, 1, 1, api.ErrArg)
	wantNeither(t, s, 9, 1, 2, api.ErrArg)
	for i := range 5 {
		wantAgain(t, s, 9, 0, i, i+1)
		wantSent(t, s, 9, 0, i)
	}
}

// TestManySpans: of the longest packet each other byte; there are never more spans than may be.
func TestManySpans(t *testing.T) {
	for _, width := range widths {
		size := api.MaxPDU - amd.Head(false, width)
		s := of(t, width)
		wantPut(t, s, packet(5, size))
		many := 0
		for at := 0; at < size; at += 2 {
			many++
			wantAgain(t, s, 5, at, at+1, many)
		}
		due := s.Due(5)
		if len(due) != many || many > api.MaxSpans || s.Bytes() != many {
			t.Fatalf("%d spans, %d bytes, of %d", len(due), s.Bytes(), many)
		}
		for i, x := range due {
			if x.From != 2*i || x.To != 2*i+1 {
				t.Fatalf("the span %d is %v", i, x)
			}
		}
		wantAgain(t, s, 5, 0, 0, many+1)
		wantDue(t, s, 5, spans.Span{From: 0, To: size})
		for at := 0; at < size; at += 2 {
			wantSent(t, s, 5, at, at+1)
		}
		if n, l := s.Bytes(), s.Due(5); n != size/2 || len(l) != size/2 {
			t.Fatalf("%d spans, %d bytes", len(l), n)
		}
	}
}

// P19.4

func TestDueTwice(t *testing.T) {
	s := of(t, 10)
	wantPut(t, s, packet(5, 10))
	wantAgain(t, s, 5, 2, 6, 1)
	// all of these are due
	wantAgain(t, s, 5, 2, 6, 1)
	wantAgain(t, s, 5, 3, 4, 1)
	wantDue(t, s, 5, spans.Span{From: 2, To: 6})
	// one of these is not
	wantAgain(t, s, 5, 5, 7, 2)
	wantAgain(t, s, 5, 1, 3, 3)
	wantDue(t, s, 5, spans.Span{From: 1, To: 7})
	wantAgain(t, s, 5, 9, 0, 4)
	wantAgain(t, s, 5, 0, 0, 5)
	wantAgain(t, s, 5, 0, 0, 5)
	wantDue(t, s, 5, spans.Span{From: 0, To: 10})
}

func TestSentIsDueNoMore(t *testing.T) {
	s := of(t, 10)
	wantPut(t, s, packet(5, 10))
	wantPut(t, s, packet(6, 10))
	wantSent(t, s, 5, 0, 0) // nothing was due
	wantAgain(t, s, 5, 0, 0, 1)
	wantAgain(t, s, 6, 0, 0, 1)
	wantSent(t, s, 5, 3, 6)
	wantSent(t, s, 5, 3, 6)
	wantDue(t, s, 5, spans.Span{From: 0, To: 3}, spans.Span{From: 6, To: 10})
	wantDue(t, s, 6, spans.Span{From: 0, To: 10})
	wantAgain(t, s, 5, 0, 3, 1) // these are due yet
	wantAgain(t, s, 5, 3, 6, 2)
	wantSent(t, s, 5, 0, 10)
	wantDue(t, s, 5)
	if l := s.Dues(); !slices.Equal(l, []int{6}) || s.Bytes() != 10 {
		t.Errorf("Dues: %v, Bytes %d", l, s.Bytes())
	}
	wantAgain(t, s, 5, 9, 10, 3)
	if l := s.Dues(); !slices.Equal(l, []int{5, 6}) || s.Bytes() != 11 {
		t.Errorf("Dues: %v, Bytes %d", l, s.Bytes())
	}
	if n := s.Count(6); n != 1 {
		t.Errorf("the other one was considered %d times", n)
	}
}

// model is a store, byte by byte.
type model struct {
	packets [32]amd.Packet
	due     [32][]bool // none, if there is no packet
	counts  [32]int
}

// state is what a store should tell.
func (m *model) state() state {
	var s state
	for sn, due := range m.due {
		if len(due) == 0 {
			continue
		}
		s.numbers = append(s.numbers, sn)
		s.packets = append(s.packets, m.packets[sn])
		s.counts = append(s.counts, m.counts[sn])
		var l []spans.Span
		for at, is := range due {
			switch {
			case !is:
				continue
			case at == 0 || !due[at-1]:
				l = append(l, spans.Span{From: at, To: at + 1})
			default:
				l[len(l)-1].To++
			}
			s.bytes++
		}
		s.due = append(s.due, l)
		if len(l) > 0 {
			s.dues = append(s.dues, sn)
		}
	}
	return s
}

// set lets bytes be due, or not, and tells whether one changed.
func (m *model) set(sn, from, to int, is bool) (bool, api.Errno) {
	due := m.due[sn]
	switch {
	case len(due) == 0:
		return false, api.ErrNone
	case from < 0 || to < 0:
		return false, api.ErrArg
	case to == 0 || to > len(due):
		to = len(due)
	}
	if from >= to {
		return false, api.ErrArg
	}
	changed := false
	for at := from; at < to; at++ {
		changed = changed || due[at] != is
		due[at] = is
	}
	return changed, api.OK
}

func (m *model) put(p amd.Packet) api.Errno {
	if len(m.due[p.SN]) > 0 {
		return api.ErrTwice
	}
	m.packets[p.SN], m.due[p.SN], m.counts[p.SN] = p, make([]bool, len(amd.Data(p))), 0
	return api.OK
}

func (m *model) again(sn, from, to int) (int, api.Errno) {
	changed, e := m.set(sn, from, to, true)
	if e != api.OK {
		return 0, e
	}
	if changed {
		m.counts[sn]++
	}
	return m.counts[sn], api.OK
}

func (m *model) drop(sn int) api.Errno {
	if len(m.due[sn]) == 0 {
		return api.ErrNone
	}
	m.due[sn] = nil
	return api.OK
}

func TestModel(t *testing.T) {
	met := map[api.Errno]int{}
	for seed := range int64(100) {
		r := rand.New(rand.NewSource(seed))
		s, m := of(t, widths[seed%2]), &model{}
		for range 600 {
			sn, from, to := r.Intn(12), r.Intn(14)-1, r.Intn(16)-1
			switch r.Intn(12) {
			case 0, 1, 2:
				p := packet(sn, alike(1+r.Intn(3), 1+r.Intn(5))...)
				want := m.put(p)
				if e := s.Put(p); e != want {
					t.Fatalf("Put(%v): %v, want %v", p, e, want)
				}
				met[want]++
			case 3:
				want := m.drop(sn)
				if e := s.Drop(sn); e != want {
					t.Fatalf("Drop(%d): %v, want %v", sn, e, want)
				}
				met[want]++
			case 4, 5, 6, 7:
				_, want := m.set(sn, from, to, false)
				if e := s.Sent(sn, from, to); e != want {
					t.Fatalf("Sent(%d, %d, %d): %v, want %v", sn, from, to, e, want)
				}
				met[want]++
			default:
				n, want := m.again(sn, from, to)
				if k, e := s.Again(sn, from, to); k != n || e != want {
					t.Fatalf("Again(%d, %d, %d): %d %v, want %d %v", sn, from, to, k, e, n, want)
				}
				met[want]++
			}
			if r.Intn(200) == 0 {
				s.Clear()
				*m = model{}
			}
			wantState(t, s, m.state())
		}
	}
	for _, e := range []api.Errno{api.OK, api.ErrNone, api.ErrArg, api.ErrTwice} {
		if met[e] < 100 {
			t.Errorf("%v was met %d times", e, met[e])
		}
	}
}

// rules 3, 4 and 5 of the document

func TestWhatIsHandedInIsNotKept(t *testing.T) {
	s := of(t, 10)
	p := packet(5, 3, 4)
	wantPut(t, s, p)
	for _, f := range p.Fields {
		for i := range f {
			f[i] ^= 0xFF
		}
	}
	p.Fields[0], p.Poll = nil, !p.Poll
	if q, _ := s.Get(5); !amd.Same(q, packet(5, 3, 4)) {
		t.Errorf("what was handed in is kept: %v", q)
	}
	under := []byte("abcdefgh")
	wantPut(t, s, amd.Packet{SN: 6, Fields: [][]byte{under[:2], under[3:5]}})
	q, _ := s.Get(6)
	_ = append(q.Fields[0], "zzz"...)
	if string(under) != "abcdefgh" {
		t.Errorf("what was handed in is changed: %q", under)
	}
}

func TestWhatIsHandedOutIsNewMemory(t *testing.T) {
	s := of(t, 10)
	for sn := 4; sn < 7; sn++ {
		wantPut(t, s, packet(sn, 3, 4))
		wantAgain(t, s, sn, 1, 2, 1)
		wantAgain(t, s, sn, 4, 6, 2)
	}
	two := []spans.Span{{From: 1, To: 2}, {From: 4, To: 6}}
	want := state{
		numbers: []int{4, 5, 6}, dues: []int{4, 5, 6}, bytes: 9,
		packets: []amd.Packet{packet(4, 3, 4), packet(5, 3, 4), packet(6, 3, 4)},
		due:     [][]spans.Span{two, two, two},
		counts:  []int{2, 2, 2},
	}
	wantState(t, s, want)
	got := stateOf(t, s)
	for i, p := range got.packets {
		for _, f := range p.Fields {
			if cap(f) != len(f) {
				t.Errorf("there is room for %d behind", cap(f)-len(f))
			}
			for j := range f {
				f[j] ^= 0xFF
			}
		}
		if cap(p.Fields) != len(p.Fields) {
			t.Errorf("there is room for %d fields behind", cap(p.Fields)-len(p.Fields))
		}
		p.Fields[1] = nil
		got.numbers[i], got.dues[i] = 9, 9
		got.due[i][0].To = 3
	}
	wantState(t, s, want)
	for _, l := range [][]int{s.Numbers(), s.Dues()} {
		if cap(l) != len(l) {
			t.Errorf("there is room for %d numbers behind", cap(l)-len(l))
		}
	}
}

func TestStoresAreTheirOwn(t *testing.T) {
	a, b := of(t, 10), of(t, 10)
	wantPut(t, a, packet(5, 3))
	wantState(t, b, state{})
	wantPut(t, b, packet(5, 9))
	wantAgain(t, b, 5, 0, 0, 1)
	wantDue(t, a, 5)
	a.Clear()
	wantDue(t, b, 5, spans.Span{From: 0, To: 9})
}
