package amstat_test

import (
	"math"
	"math/rand"
	"slices"
	"strings"
	"testing"

	"bowline/amd"
	"bowline/amstat"
	"bowline/api"
	"bowline/rxbuf"
	"bowline/rxwin"
	"bowline/spans"
	"bowline/status"
)

var (
	widths = []int{10, 16}
	// wrongWidths is widths that no status has.
	wrongWidths = []int{-10, -1, 0, 1, 5, 9, 11, 15, 17, 32, 1<<32 + 10, math.MinInt, math.MaxInt}
	// wrongGrants is grants that may not be.
	wrongGrants = []int{-1, -2, math.MinInt, api.MaxGrant + 1, 1 << 16, 1<<32 + 5, math.MaxInt}
	// anyNumbers is numbers of which no buffer has a piece here.
	anyNumbers = []int{-1, 0, 1023, 1 << 16, 1 << 32, math.MinInt, math.MaxInt}
)

// both is a window and a buffer.
type both struct {
	w *rxwin.Window
	b *rxbuf.Buffer
}

func of(t *testing.T, width int) both {
	t.Helper()
	w, e := rxwin.New(width, 1<<width/2)
	if w == nil || e != api.OK {
		t.Fatalf("New: %v", e)
	}
	return both{w, rxbuf.New()}
}

// upTo is a window that tells what is missing up to a number, and has nothing of any.
func upTo(t *testing.T, width, n int) both {
	t.Helper()
	x := of(t, width)
	x.came(t, n-1)
	x.late(t, n)
	return x
}

// beginning is a window that begins with a number.
func beginning(t *testing.T, width, n int) both {
	t.Helper()
	x := of(t, width)
	for sn := range n {
		x.whole(t, sn)
	}
	return x
}

func (x both) came(t *testing.T, n int) {
	t.Helper()
	if e := x.w.Came(n); e != api.OK {
		t.Fatalf("Came(%d): %v", n, e)
	}
}

func (x both) whole(t *testing.T, numbers ...int) {
	t.Helper()
	for _, n := range numbers {
		if _, e := x.w.Whole(n); e != api.OK {
			t.Fatalf("Whole(%d): %v", n, e)
		}
	}
}

func (x both) late(t *testing.T, n int) {
	t.Helper()
	if e := x.w.Late(n); e != api.OK {
		t.Fatalf("Late(%d): %v", n, e)
	}
}

// part puts bytes of a number into the buffer.
func (x both) part(t *testing.T, sn, from, to int, last bool) {
	t.Helper()
	field := []byte(strings.Repeat("x", to-from))
	p := amd.Packet{SN: sn, Part: true, Last: last, Offset: from, Fields: [][]byte{field}}
	if e := x.b.Put(p); e != api.OK {
		t.Fatalf("Put of %d, from %d to %d: %v", sn, from, to, e)
	}
}

// gaps lets a number have so many gaps, one of them behind all that came.
func (x both) gaps(t *testing.T, sn, many int) {
	t.Helper()
	for i := range many {
		x.part(t, sn, 2*i, 2*i+1, false)
	}
}

// all is a miss of all of a number.
func all(sn int) status.Miss { return status.Miss{SN: sn} }

// some is a miss of some bytes of a number.
func some(sn, from, to int) status.Miss { return status.Miss{SN: sn, Part: true, From: from, To: to} }

// alls is misses of all of numbers, ahead of another one.
func alls(from, to int) []status.Miss {
	var l []status.Miss
	for sn := from; sn < to; sn++ {
		l = append(l, all(sn))
	}
	return l
}

// state is what there is to ask of a window and a buffer.
type state struct {
	ends    [3]int
	missing []int
	numbers []int
	bytes   int
	gaps    [][]spans.Span
}

func (x both) state() state {
	s := state{x.w.State(), x.w.Missing(), x.b.Numbers(), x.b.Bytes(), nil}
	for _, n := range s.numbers {
		s.gaps = append(s.gaps, x.b.Missing(n))
	}
	return s
}

func (a state) is(b state) bool {
	return a.ends == b.ends && slices.Equal(a.missing, b.missing) && slices.Equal(a.numbers, b.numbers) &&
		a.bytes == b.bytes && slices.EqualFunc(a.gaps, b.gaps, slices.Equal)
}

func wantMisses(t *testing.T, b *rxbuf.Buffer, sn int, want ...status.Miss) {
	t.Helper()
	if l := amstat.Misses(b, sn); !slices.Equal(l, want) {
		t.Fatalf("Misses(%d): %v, want %v", sn, l, want)
	}
}

func wantMake(t *testing.T, x both, grant, width, ack int, misses ...status.Miss) {
	t.Helper()
	before, want := x.state(), status.Status{Ack: ack, Misses: misses}
	if s, e := amstat.Make(x.w, x.b, grant, width); !status.Same(s, want) || e != api.OK {
		t.Fatalf("Make of %d bytes: %v %v, want %v", grant, s, e, want)
	}
	if !x.state().is(before) {
		t.Fatalf("Make changed %v, which was %v", x.state(), before)
	}
}

func wantNone(t *testing.T, x both, grant, width int, want api.Errno) {
	t.Helper()
	before := x.state()
	if s, e := amstat.Make(x.w, x.b, grant, width); s.Ack != 0 || len(s.Misses) != 0 || e != want {
		t.Fatalf("Make(%d, %d): %v %v, want %v", grant, width, s, e, want)
	}
	if !x.state().is(before) {
		t.Fatalf("Make changed %v, which was %v", x.state(), before)
	}
}

// P25.1: Misses

func TestMisses(t *testing.T) {
	x := of(t, 10)
	for _, sn := range anyNumbers {
		wantMisses(t, x.b, sn, all(sn))
	}
	x.part(t, 5, 3, 5, false)
	wantMisses(t, x.b, 5, some(5, 0, 3), some(5, 5, 0))
	x.part(t, 5, 9, 10, true)
	wantMisses(t, x.b, 5, some(5, 0, 3), some(5, 5, 9))
	x.part(t, 5, 0, 3, false)
	wantMisses(t, x.b, 5, some(5, 5, 9))
	wantMisses(t, x.b, 4, all(4))
	wantMisses(t, x.b, 6, all(6))
	x.part(t, 6, 0, 1, false)
	wantMisses(t, x.b, 6, some(6, 1, 0))
	wantMisses(t, x.b, 5, some(5, 5, 9))
}

// TestMissesOfAWholeOne: the buffer tells no span of it, as of one that it has not.
func TestMissesOfAWholeOne(t *testing.T) {
	x := of(t, 10)
	x.part(t, 5, 0, 4, true)
	wantMisses(t, x.b, 5, all(5))
	x.late(t, 0)
	x.came(t, 5)
	x.late(t, 6)
	wantMake(t, x, 100, 10, 6, alls(0, 6)...)
}

func TestMissesOfNoBuffer(t *testing.T) {
	for _, b := range []*rxbuf.Buffer{nil, {}} {
		for _, sn := range append(anyNumbers, 5) {
			wantMisses(t, b, sn, all(sn))
		}
	}
}

// TestMissesAreNotCut: a number has as many as it has.
func TestMissesAreNotCut(t *testing.T) {
	x := of(t, 16)
	const many = api.MaxPDU / 2
	x.gaps(t, 7, many)
	var want []status.Miss
	for i := range many - 1 {
		want = append(want, some(7, 2*i+1, 2*i+2))
	}
	wantMisses(t, x.b, 7, append(want, some(7, 2*many-1, 0))...)
	x.part(t, 7, 2*many-1, 2*many, true)
	wantMisses(t, x.b, 7, want...)
}

// TestPlaces: the first and the last ones of a packet.
func TestPlaces(t *testing.T) {
	x := upTo(t, 10, 3)
	x.part(t, 0, api.MaxPDU-1, api.MaxPDU, true)
	x.part(t, 1, api.MaxPDU-1, api.MaxPDU, false)
	x.part(t, 2, 0, api.MaxPDU-1, false)
	wantMake(t, x, 100, 10, 3,
		some(0, 0, api.MaxPDU-1), some(1, 0, api.MaxPDU-1), some(1, api.MaxPDU, 0), some(2, api.MaxPDU-1, 0))
}

// P25.1: Make's errors

func TestNoWindowOrBuffer(t *testing.T) {
	x := of(t, 10)
	for _, y := range []both{{nil, nil}, {nil, x.b}, {x.w, nil}, {&rxwin.Window{}, x.b}, {x.w, &rxbuf.Buffer{}}, {&rxwin.Window{}, &rxbuf.Buffer{}}} {
		for _, grant := range append(wrongGrants, 0, 1, 2, 3, api.MaxGrant) {
			for _, width := range append(wrongWidths, widths...) {
				wantNone(t, y, grant, width, api.ErrNil)
			}
		}
	}
}

func TestErrors(t *testing.T) {
	for _, x := range []both{of(t, 10), upTo(t, 10, 40), of(t, 16), of(t, 3)} {
		for _, width := range wrongWidths {
			for _, grant := range append(wrongGrants, 0, 1, 100, api.MaxGrant) {
				wantNone(t, x, grant, width, api.ErrKind)
			}
		}
		for _, width := range widths {
			for _, grant := range wrongGrants {
				wantNone(t, x, grant, width, api.ErrArg)
			}
			for grant := range least(width) {
				wantNone(t, x, grant, width, api.ErrGrant)
			}
		}
	}
}

// TestPiecesOfAnyNumbers: which window and buffer no call made does not hang on what they have.
func TestPiecesOfAnyNumbers(t *testing.T) {
	x := upTo(t, 10, 1)
	for _, sn := range append(anyNumbers, -2) {
		x.part(t, sn, 0, 1, true)
	}
	wantMake(t, x, 100, 10, 1, all(0))
}

// least is how many bytes a status without misses has.
func least(width int) int { return 2 + width/16 }

// P25.1: the status

func TestExample(t *testing.T) {
	for _, width := range widths {
		x := of(t, width)
		for _, grant := range []int{least(width), least(width) + 1, 100, api.MaxGrant} {
			wantMake(t, x, grant, width, 0)
		}
		s, _ := amstat.Make(x.w, x.b, 100, width)
		if b, e := status.Write(s, width); len(b) != least(width) || e != api.OK {
			t.Errorf("Write: %x %v", b, e)
		}
	}
}

// TestAck: it is MS, whatever came behind it.
func TestAck(t *testing.T) {
	for _, width := range widths {
		x := of(t, width)
		x.whole(t, 0, 1, 2)
		wantMake(t, x, 100, width, 3)
		x.whole(t, 5)
		x.came(t, 7)
		x.part(t, 3, 0, 2, false)
		wantMake(t, x, 100, width, 3)
		x.late(t, 4)
		wantMake(t, x, 100, width, 4, some(3, 2, 0))
		x.late(t, 5)
		wantMake(t, x, 100, width, 6, some(3, 2, 0), all(4))
		x.part(t, 7, 1, 2, false)
		x.late(t, 8)
		wantMake(t, x, 100, width, 8, some(3, 2, 0), all(4), all(6), some(7, 0, 1), some(7, 2, 0))
		x.whole(t, 4)
		wantMake(t, x, 100, width, 8, some(3, 2, 0), all(6), some(7, 0, 1), some(7, 2, 0))
		x.whole(t, 3, 6)
		wantMake(t, x, 100, width, 8, some(7, 0, 1), some(7, 2, 0))
		x.whole(t, 7)
		wantMake(t, x, least(width), width, 8)
	}
}

// TestGoesRound: the order is the window's.
func TestGoesRound(t *testing.T) {
	for _, width := range widths {
		size := 1 << width
		x := beginning(t, width, size-3)
		x.whole(t, size-2, 1)
		x.came(t, 2)
		x.part(t, size-1, 1, 2, true)
		x.late(t, 3)
		want := []status.Miss{all(size - 3), some(size-1, 0, 1), all(0), all(2)}
		wantMake(t, x, 100, width, 3, want...)
		wantMake(t, x, sizeOf(want, width)-1, width, 2, want[:3]...)
		wantMake(t, x, sizeOf(want[:3], width)-1, width, 0, want[:2]...)
		wantMake(t, x, sizeOf(want[:2], width)-1, width, size-1, want[:1]...)
		wantMake(t, x, sizeOf(want[:1], width)-1, width, size-3)
	}
}

// sizeOf is how many bytes a status of misses has, as the document tells.
func sizeOf(l []status.Miss, width int) int {
	places := 15 + width/16
	bits := 4 + width + 1
	for _, m := range l {
		bits += width + 2
		if m.Part {
			bits += 2 * places
		}
	}
	return (bits + 7) / 8
}

// TestEachGrant: numbers of which all is missing, and others of which parts are, to each grant.
func TestEachGrant(t *testing.T) {
	for _, width := range widths {
		x := upTo(t, width, 9)
		x.gaps(t, 1, 3)
		x.gaps(t, 4, 1)
		x.whole(t, 6)
		x.gaps(t, 7, 2)
		misses := [][]status.Miss{
			{all(0)},
			{some(1, 1, 2), some(1, 3, 4), some(1, 5, 0)},
			{all(2)}, {all(3)},
			{some(4, 1, 0)},
			{all(5)},
			{some(7, 1, 2), some(7, 3, 0)},
			{all(8)},
		}
		grants := 0
		for grant := least(width); grant <= 100; grant++ {
			var want []status.Miss
			ack := 9
			for _, l := range misses {
				if sizeOf(append(slices.Clone(want), l...), width) > grant {
					ack = l[0].SN
					break
				}
				want = append(want, l...)
			}
			wantMake(t, x, grant, width, ack, want...)
			if len(want) < 11 {
				grants++
			}
		}
		if grants < 20 {
			t.Errorf("%d grants are too small", grants)
		}
		wantMake(t, x, api.MaxGrant, width, 9, slices.Concat(misses...)...)
	}
}

// TestMost: at most MaxNacks misses, whatever the grant is.
func TestMost(t *testing.T) {
	const most = api.MaxNacks
	for _, width := range widths {
		wantMake(t, upTo(t, width, most-1), api.MaxGrant, width, most-1, alls(0, most-1)...)
		wantMake(t, upTo(t, width, most), api.MaxGrant, width, most, alls(0, most)...)
		wantMake(t, upTo(t, width, most+1), api.MaxGrant, width, most, alls(0, most)...)
		wantMake(t, upTo(t, width, most+5), api.MaxGrant, width, most, alls(0, most)...)
		x := upTo(t, width, most+5)
		wantMake(t, x, sizeOf(alls(0, most), width), width, most, alls(0, most)...)
		wantMake(t, x, sizeOf(alls(0, most), width)-1, width, most-1, alls(0, most-1)...)
		x.whole(t, most)
		wantMake(t, x, api.MaxGrant, width, most+1, alls(0, most)...)
	}
}

// TestMostOfParts: of a number all misses are told, or none.
func TestMostOfParts(t *testing.T) {
	const most = api.MaxNacks
	for _, width := range widths {
		x := upTo(t, width, most)
		x.gaps(t, most-2, 2)
		want := append(alls(0, most-2), some(most-2, 1, 2), some(most-2, 3, 0))
		wantMake(t, x, api.MaxGrant, width, most-1, want...)
		x.part(t, most-2, 4, 5, false)
		wantMake(t, x, api.MaxGrant, width, most-2, alls(0, most-2)...)
	}
}

// TestMostOfOneNumber: as many as there may be, and more, of which none is told.
func TestMostOfOneNumber(t *testing.T) {
	const most = api.MaxNacks
	for _, width := range widths {
		x := upTo(t, width, 2)
		x.gaps(t, 0, most)
		want := amstat.Misses(x.b, 0)
		if len(want) != most {
			t.Fatalf("%d misses", len(want))
		}
		wantMake(t, x, api.MaxGrant, width, 1, want...)
		wantMake(t, x, sizeOf(want, width), width, 1, want...)
		wantMake(t, x, sizeOf(want, width)-1, width, 0)
		x.part(t, 0, 2*most, 2*most+1, false)
		wantMake(t, x, api.MaxGrant, width, 0)
		x.whole(t, 0)
		wantMake(t, x, api.MaxGrant, width, 2, all(1))
	}
}

func TestWidest(t *testing.T) {
	const size = 1 << 15
	x := upTo(t, 16, size)
	wantMake(t, x, api.MaxGrant, 16, api.MaxNacks, alls(0, api.MaxNacks)...)
	for n := range size - 1 {
		if n > 0 {
			x.whole(t, n)
		}
	}
	wantMake(t, x, api.MaxGrant, 16, size, all(0), all(size-1))
}

// TestOtherWindows: whose numbers have fewer bits than the status's; and of more it ends, at least.
func TestOtherWindows(t *testing.T) {
	w, _ := rxwin.New(3, 4)
	x := both{w, rxbuf.New()}
	x.whole(t, 0, 2)
	x.late(t, 2)
	for _, width := range widths {
		wantMake(t, x, 100, width, 3, all(1))
	}
	x = beginning(t, 16, 1020)
	x.came(t, 1027)
	x.late(t, 1028)
	for grant := range 100 {
		amstat.Make(x.w, x.b, grant, 10)
	}
}

// P25.2

// chance is a window and a buffer to which much came, and the width.
func chance(t *testing.T, r *rand.Rand) (both, int) {
	width := widths[r.Intn(2)]
	size := 1 + r.Intn(60)
	w, _ := rxwin.New(width, size)
	x := both{w, rxbuf.New()}
	first := 0
	if width == 10 || r.Intn(20) == 0 { // so many steps take their time
		first = r.Intn(3) * (1<<width - 30) / 2
	}
	for sn := range first {
		x.whole(t, sn)
	}
	for range r.Intn(4 * size) {
		n := (x.w.State()[0] + r.Intn(size)) % (1 << width)
		switch r.Intn(4) {
		case 0:
			if !x.w.Is(n) {
				x.whole(t, n)
			}
		case 1:
			x.came(t, n)
		default:
			x.came(t, n)
			from := r.Intn(40)
			field := make([]byte, 1+r.Intn(9))
			x.b.Put(amd.Packet{SN: n, Part: true, Last: r.Intn(9) == 0, Offset: from, Fields: [][]byte{field}})
		}
	}
	if r.Intn(4) > 0 {
		x.late(t, x.w.State()[2])
	}
	return x, width
}

// misses is all that is missing of a number.
func (x both) misses(sn int) []status.Miss {
	var l []status.Miss
	for _, gap := range x.b.Missing(sn) {
		l = append(l, some(sn, gap.From, gap.To))
	}
	if len(l) == 0 {
		l = append(l, all(sn))
	}
	return l
}

// TestFitsAndNames: it fits, it names all that is missing ahead of its Ack, and nothing else; and with one number more it would not fit.
func TestFitsAndNames(t *testing.T) {
	cut, most, whole := 0, 0, 0
	for seed := range int64(600) {
		r := rand.New(rand.NewSource(seed))
		x, width := chance(t, r)
		grant := least(width) + r.Intn(r.Intn(250)+1)
		s, e := amstat.Make(x.w, x.b, grant, width)
		if e != api.OK {
			t.Fatalf("Make: %v", e)
		}
		if b, e := status.Write(s, width); e != api.OK || len(b) > grant || len(s.Misses) > api.MaxNacks {
			t.Fatalf("%v: %d bytes of %d, %v", s, len(b), grant, e)
		}
		var want []status.Miss
		ack := x.w.State()[1]
		for _, sn := range x.w.Missing() {
			if x.w.Far(sn) >= x.w.Far(s.Ack) {
				ack = sn
				break
			}
			want = append(want, x.misses(sn)...)
		}
		wantMake(t, x, grant, width, ack, want...)
		if ack == x.w.State()[1] {
			whole++
			continue
		}
		more := slices.Concat(s.Misses, x.misses(ack))
		switch {
		case sizeOf(more, width) > grant:
			cut++
		case len(more) > api.MaxNacks:
			most++
		default:
			t.Fatalf("the misses of %d would fit into %d bytes", ack, grant)
		}
	}
	if cut < 100 || most < 20 || whole < 100 {
		t.Errorf("cut %d times, full %d times, whole %d times", cut, most, whole)
	}
}

// rules 4 and 5 of the document

func TestWhatIsHandedOutIsNewMemory(t *testing.T) {
	x := upTo(t, 10, 8)
	x.gaps(t, 2, 5)
	l := amstat.Misses(x.b, 2)
	s, _ := amstat.Make(x.w, x.b, 100, 10)
	for _, l := range [][]status.Miss{l, s.Misses, amstat.Misses(x.b, 3), amstat.Misses(nil, 3)} {
		if len(l) == 0 || cap(l) != len(l) {
			t.Fatalf("%v has room for %d", l, cap(l))
		}
		clear(l)
	}
	wantMisses(t, x.b, 2, some(2, 1, 2), some(2, 3, 4), some(2, 5, 6), some(2, 7, 8), some(2, 9, 0))
	want := append(alls(0, 2), amstat.Misses(x.b, 2)...)
	wantMake(t, x, 100, 10, 8, append(want, alls(3, 8)...)...)
	x = upTo(t, 10, 40)
	for grant := least(10); grant < 60; grant++ { // of however many misses
		if s, _ := amstat.Make(x.w, x.b, grant, 10); cap(s.Misses) != len(s.Misses) {
			t.Fatalf("%d misses, room for %d", len(s.Misses), cap(s.Misses))
		}
	}
}
