package cut_test

import (
	"bytes"
	"math"
	"math/rand"
	"slices"
	"strings"
	"testing"

	"bowline/amd"
	"bowline/api"
	"bowline/cut"
	"bowline/queue"
	"bowline/umd"
)

var (
	widths = []int{11, 15}
	// wrong is widths that may not be.
	wrong = []int{0, 1, 5, 8, 10, 12, 14, 16, 64, -1, -11, -15, math.MinInt, math.MaxInt, 11 + 1<<32}
	// rooms is rooms that may not be.
	rooms = []int{-1, -2, math.MinInt, api.MaxPDU + 1, api.MaxGrant, math.MaxInt, 1<<32 + 5}
)

// pushed is a queue of texts.
func pushed(t *testing.T, texts ...string) *queue.Queue {
	t.Helper()
	q, e := queue.New(api.MaxBytes)
	if e != api.OK {
		t.Fatalf("New: %v", e)
	}
	for _, text := range texts {
		push(t, q, text)
	}
	return q
}

func push(t *testing.T, q *queue.Queue, text string) {
	t.Helper()
	if _, e := q.Push([]byte(text)); e != api.OK {
		t.Fatalf("Push: %v", e)
	}
}

// long is a text of so many bytes.
func long(n int) string { return strings.Repeat("0123456789", n/10+1)[:n] }

// times is a text, so many times.
func times(text string, n int) []string { return slices.Repeat([]string{text}, n) }

// state is all that a queue tells.
type state struct {
	id    uint64
	waits string
	begun bool
	bytes int
	ids   []uint64
}

func stateOf(q *queue.Queue) state {
	id, waits, begun := q.Front()
	return state{id, string(waits), begun, q.Bytes(), q.IDs()}
}

func wantState(t *testing.T, q *queue.Queue, want state) {
	t.Helper()
	got := stateOf(q)
	if !slices.Equal(got.ids, want.ids) {
		t.Fatalf("the texts %v, want %v", got.ids, want.ids)
	}
	got.ids, want.ids = nil, nil
	if got.id != want.id || got.waits != want.waits || got.begun != want.begun || got.bytes != want.bytes {
		t.Fatalf("the queue has %v, want %v", got, want)
	}
}

// wantPiece holds a piece against what it should have, a field a text.
func wantPiece(t *testing.T, p cut.Piece, fi int, done []uint64, fields ...string) {
	t.Helper()
	same := slices.EqualFunc(p.Fields, fields, func(a []byte, b string) bool { return string(a) == b })
	if p.FI != fi || !slices.Equal(p.Done, done) || !same {
		t.Fatalf("FI %d, done %v, fields %q, want %d, %v, %q", p.FI, p.Done, p.Fields, fi, done, fields)
	}
}

func wantBuild(t *testing.T, q *queue.Queue, room, width, fi int, done []uint64, fields ...string) {
	t.Helper()
	before := stateOf(q)
	if !cut.Fits(q, room, width) {
		t.Fatalf("Fits(%d, %d): false", room, width)
	}
	wantState(t, q, before)
	p, e := cut.Build(q, room, width)
	if e != api.OK {
		t.Fatalf("Build(%d, %d): %v", room, width, e)
	}
	wantPiece(t, p, fi, done, fields...)
	if n := cut.Bytes(p, width); n < 1 || n > room {
		t.Fatalf("Build(%d, %d) has %d bytes", room, width, n)
	}
}

func wantNone(t *testing.T, q *queue.Queue, room, width int, want api.Errno) {
	t.Helper()
	before := stateOf(q)
	if cut.Fits(q, room, width) {
		t.Fatalf("Fits(%d, %d): true", room, width)
	}
	p, e := cut.Build(q, room, width)
	if e != want || p.FI != 0 || len(p.Fields) != 0 || len(p.Done) != 0 {
		t.Fatalf("Build(%d, %d): %v %v, want %v", room, width, p, e, want)
	}
	wantState(t, q, before)
}

// P13.1: Build

func TestExample(t *testing.T) {
	q := pushed(t, "ab", "c")
	wantBuild(t, q, 5, 11, 0, []uint64{1, 2}, "ab", "c")
	wantNone(t, q, 5, 11, api.ErrNone)
	wantState(t, q, state{})
}

func TestEachRoom(t *testing.T) {
	for _, width := range widths {
		for room := 1; room <= 12; room++ {
			q := pushed(t, "ab", "cde")
			switch {
			case room == 1:
				wantBuild(t, q, room, width, 1, nil, "a")
				wantState(t, q, state{1, "b", true, 4, []uint64{1, 2}})
			case room <= 4:
				wantBuild(t, q, room, width, 0, []uint64{1}, "ab")
				wantState(t, q, state{2, "cde", false, 3, []uint64{2}})
			case room <= 6:
				wantBuild(t, q, room, width, 1, []uint64{1}, "ab", "cde"[:room-4])
				wantState(t, q, state{2, "cde"[room-4:], true, 7 - room, []uint64{2}})
			default:
				wantBuild(t, q, room, width, 0, []uint64{1, 2}, "ab", "cde")
				wantState(t, q, state{})
			}
		}
	}
}

func TestFI(t *testing.T) {
	q := pushed(t, "abcdef", "gh", "ijkl", "mno", "pq")
	wantBuild(t, q, 2, 11, 1, nil, "ab")
	wantBuild(t, q, 2, 11, 3, nil, "cd")
	wantBuild(t, q, 2, 11, 2, []uint64{1}, "ef")
	wantBuild(t, q, 2, 11, 0, []uint64{2}, "gh")
	wantBuild(t, q, 3, 11, 1, nil, "ijk")
	wantBuild(t, q, 4, 11, 3, []uint64{3}, "l", "m")
	wantBuild(t, q, 6, 11, 2, []uint64{4, 5}, "no", "pq")
	for _, text := range []string{"r", "st", "uvw"} {
		push(t, q, text)
	}
	wantBuild(t, q, 4, 11, 1, []uint64{6}, "r", "s")
	wantBuild(t, q, 6, 11, 2, []uint64{7, 8}, "t", "uvw")
}

func TestDone(t *testing.T) {
	q := pushed(t, "ab", "cd", "ef", "gh")
	if e := q.Discard(2); e != api.OK {
		t.Fatalf("Discard: %v", e)
	}
	wantBuild(t, q, 100, 11, 0, []uint64{1, 3, 4}, "ab", "ef", "gh")
	push(t, q, "ij")
	q.Clear()
	push(t, q, "kl")
	wantBuild(t, q, 100, 11, 0, []uint64{6}, "kl")
}

func TestMostFields(t *testing.T) {
	for _, width := range widths {
		for _, many := range []int{api.MaxFields - 1, api.MaxFields, api.MaxFields + 1, api.MaxQueue} {
			q := pushed(t, times("a", many)...)
			all := min(many, api.MaxFields)
			p, e := cut.Build(q, api.MaxPDU, width)
			if e != api.OK || len(p.Fields) != all || len(p.Done) != all || p.FI != 0 {
				t.Fatalf("Build of %d texts: %d fields, %v", many, len(p.Fields), e)
			}
			if n := q.Bytes(); n != many-all {
				t.Fatalf("%d bytes wait of %d", n, many)
			}
			if n, want := cut.Bytes(p, width), all+((all-1)*(1+width)+7)/8; n != want {
				t.Fatalf("Bytes of %d fields: %d, want %d", all, n, want)
			}
		}
	}
	// the most fields, the last of them cut
	q := pushed(t, append(times("a", api.MaxFields-1), "bcd", "e")...)
	room := api.MaxFields - 1 + (23*12+7)/8 + 2
	p, e := cut.Build(q, room, 11)
	if e != api.OK || p.FI != 1 || len(p.Fields) != api.MaxFields || len(p.Done) != api.MaxFields-1 {
		t.Fatalf("Build: %d fields, FI %d, %v", len(p.Fields), p.FI, e)
	}
	wantBuild(t, q, 4, 11, 2, []uint64{24, 25}, "d", "e")
}

func TestMostRoom(t *testing.T) {
	for _, width := range widths {
		q := pushed(t, times(long(api.MaxSDU), 6)...)
		wantNone(t, q, api.MaxPDU+1, width, api.ErrArg)
		rest := api.MaxPDU - 3*api.MaxSDU - (3*(1+width)+7)/8
		l := append(times(long(api.MaxSDU), 3), long(api.MaxSDU)[:rest])
		wantBuild(t, q, api.MaxPDU, width, 1, []uint64{1, 2, 3}, l...)
		wantBuild(t, q, api.MaxSDU-rest, width, 2, []uint64{4}, long(api.MaxSDU)[rest:])
		wantBuild(t, q, api.MaxSDU-1, width, 1, nil, long(api.MaxSDU)[:api.MaxSDU-1])
		wantBuild(t, q, api.MaxPDU, width, 2, []uint64{5, 6}, long(api.MaxSDU)[api.MaxSDU-1:], long(api.MaxSDU))
	}
}

// TestLengthsTakeRoom tries, behind so many fields, the room that is just too small for another one, and the least one that is not.
func TestLengthsTakeRoom(t *testing.T) {
	for _, width := range widths {
		for many := 1; many < api.MaxFields; many++ {
			texts := append(times("ab", many), "cd")
			room := 2*many + (many*(1+width)+7)/8
			q := pushed(t, texts...)
			before := stateOf(q).ids
			wantBuild(t, q, room, width, 0, before[:many], texts[:many]...)
			wantState(t, q, state{before[many], "cd", false, 2, before[many:]})
			q = pushed(t, texts...)
			wantBuild(t, q, room+1, width, 1, before[:many], append(texts[:many:many], "c")...)
			wantState(t, q, state{before[many], "d", true, 1, before[many:]})
		}
	}
}

// P13.1: errors

func TestNoQueue(t *testing.T) {
	for _, q := range []*queue.Queue{nil, {}} {
		for _, width := range slices.Concat(widths, wrong) {
			for _, room := range append(rooms, 0, 1, 5, api.MaxPDU) {
				wantNone(t, q, room, width, api.ErrNil)
			}
		}
	}
}

func TestWrongWidth(t *testing.T) {
	for _, texts := range [][]string{nil, {"ab"}} {
		for _, width := range wrong {
			for _, room := range append(rooms, 0, 1, 5, api.MaxPDU) {
				wantNone(t, pushed(t, texts...), room, width, api.ErrKind)
			}
		}
	}
}

func TestWrongRoom(t *testing.T) {
	for _, texts := range [][]string{nil, {"ab"}} {
		for _, width := range widths {
			for _, room := range rooms {
				wantNone(t, pushed(t, texts...), room, width, api.ErrArg)
			}
		}
	}
}

func TestNoField(t *testing.T) {
	for _, width := range widths {
		for _, room := range []int{0, 1, 2, api.MaxPDU - 1, api.MaxPDU} {
			wantNone(t, pushed(t), room, width, api.ErrNone)
		}
		q := pushed(t, "ab")
		wantNone(t, q, 0, width, api.ErrNone)
		wantBuild(t, q, 1, width, 1, nil, "a")
		wantNone(t, q, 0, width, api.ErrNone)
		wantBuild(t, q, 1, width, 2, []uint64{1}, "b")
		wantNone(t, q, 1, width, api.ErrNone)
	}
}

// P13.1: Bytes

func TestBytes(t *testing.T) {
	cases := []struct {
		lengths        []int
		narrow, wide15 int
	}{
		{nil, 0, 0},
		{[]int{1}, 1, 1},
		{[]int{1000}, 1000, 1000},
		{[]int{1, 1}, 4, 4},
		{[]int{2, 1}, 5, 5},
		{[]int{1, 1, 1}, 3 + 3, 3 + 4},
		{[]int{1, 2, 3, 4}, 10 + 5, 10 + 6},
		{slices.Repeat([]int{1}, api.MaxFields), 24 + 35, 24 + 46},
		{[]int{0}, 0, 0},
		{[]int{0, 0}, 2, 2},
		{[]int{0, 3, 0}, 3 + 3, 3 + 4},
		{[]int{5000, 70000}, 75002, 75002},
	}
	for _, c := range cases {
		p := cut.Piece{FI: 9, Done: []uint64{7}}
		for _, n := range c.lengths {
			p.Fields = append(p.Fields, make([]byte, n))
		}
		if n := cut.Bytes(p, 11); n != c.narrow {
			t.Errorf("Bytes of %v, 11: %d, want %d", c.lengths, n, c.narrow)
		}
		if n := cut.Bytes(p, 15); n != c.wide15 {
			t.Errorf("Bytes of %v, 15: %d, want %d", c.lengths, n, c.wide15)
		}
		for _, width := range wrong {
			if n := cut.Bytes(p, width); n != 0 {
				t.Errorf("Bytes of %v, %d: %d", c.lengths, width, n)
			}
		}
	}
}

func TestBytesOfManyFieldsEnds(t *testing.T) {
	for _, many := range []int{api.MaxFields + 1, 1000, 1 << 20} {
		p := cut.Piece{Fields: slices.Repeat([][]byte{{1}}, many)}
		for _, width := range widths {
			if n := cut.Bytes(p, width); n < many {
				t.Errorf("Bytes of %d fields: %d", many, n)
			}
		}
	}
}

// P13.1: against a queue from which one byte goes behind the other

type waiting struct {
	id    uint64
	text  string
	taken int
}

type model []waiting

// piece is what Build asks for: each next byte goes as long as all that is there then, and the lengths it needs, fit.
func (m *model) piece(room, width int) cut.Piece {
	p := cut.Piece{}
	size, open := 0, false
	for len(*m) > 0 {
		first := &(*m)[0]
		n, k := size+1, len(p.Fields)
		if !open {
			k++
		}
		if k > 24 || n+((k-1)*(1+width)+7)/8 > room {
			break
		}
		if !open {
			if k == 1 && first.taken > 0 {
				p.FI = 2
			}
			p.Fields = append(p.Fields, nil)
		}
		p.Fields[k-1] = append(p.Fields[k-1], first.text[first.taken])
		first.taken++
		size, open = n, true
		if first.taken == len(first.text) {
			p.Done = append(p.Done, first.id)
			*m, open = (*m)[1:], false
		}
	}
	if open {
		p.FI |= 1
	}
	return p
}

func (m *model) state() state {
	s := state{}
	for i, x := range *m {
		if i == 0 {
			s.id, s.waits, s.begun = x.id, x.text[x.taken:], x.taken > 0
		}
		s.bytes += len(x.text) - x.taken
		s.ids = append(s.ids, x.id)
	}
	return s
}

// build holds Build against the model.
func (m *model) build(t *testing.T, q *queue.Queue, room, width int) {
	t.Helper()
	want := m.piece(room, width)
	if len(want.Fields) == 0 {
		wantNone(t, q, room, width, api.ErrNone)
		return
	}
	l := make([]string, len(want.Fields))
	for i, f := range want.Fields {
		l[i] = string(f)
	}
	wantBuild(t, q, room, width, want.FI, want.Done, l...)
	wantState(t, q, m.state())
}

func TestAgainstPlainCuts(t *testing.T) {
	for seed := range int64(200) {
		r := rand.New(rand.NewSource(seed))
		q, m, last := pushed(t), &model{}, uint64(0)
		longest := []int{2, 6, 40, 1000}[seed%4]
		most := []int{12, 90, 600, 4000}[seed/4%4]
		for range 150 {
			for range r.Intn(4) {
				b := make([]byte, 1+r.Intn(longest))
				r.Read(b)
				if _, e := q.Push(b); e == api.OK {
					last++
					*m = append(*m, waiting{id: last, text: string(b)})
				}
			}
			m.build(t, q, r.Intn(most+1), widths[r.Intn(2)])
		}
	}
}

func TestAllSmallQueues(t *testing.T) {
	for code := range 4 * 4 * 4 * 4 {
		for room := range 16 {
			for _, width := range widths {
				q, m, last := pushed(t), &model{}, uint64(0)
				for rest := code; rest > 0; rest /= 4 {
					if n := rest % 4; n > 0 {
						last++
						text := "abcdefghi"[last : int(last)+n]
						push(t, q, text)
						*m = append(*m, waiting{id: last, text: text})
					}
				}
				m.build(t, q, room, width)
				m.build(t, q, room, width)
			}
		}
	}
}

// P13.2 and P13.3

func TestPiecesAreTheTexts(t *testing.T) {
	for seed := range int64(60) {
		r := rand.New(rand.NewSource(seed))
		width, longest := widths[seed%2], 1+r.Intn(300)
		q := pushed(t)
		var all, got []byte
		ends, done := map[int]uint64{}, []uint64{} // where in all bytes which text ends
		for id := range uint64(60) {
			b := make([]byte, 1+r.Intn(longest))
			r.Read(b)
			push(t, q, string(b))
			all = append(all, b...)
			ends[len(all)] = id + 1
		}
		for q.Bytes() > 0 {
			room := 1 + r.Intn(2*longest)
			p, e := cut.Build(q, room, width)
			if e != api.OK || cut.Bytes(p, width) > room {
				t.Fatalf("Build(%d): %d bytes, %v", room, cut.Bytes(p, width), e)
			}
			if begins := len(got) == 0 || ends[len(got)] > 0; begins != (p.FI&2 == 0) {
				t.Fatalf("FI %d behind %d bytes", p.FI, len(got))
			}
			for i, f := range p.Fields {
				for at := 1; at < len(f); at++ {
					if ends[len(got)+at] > 0 {
						t.Fatalf("a field goes past a text's end")
					}
				}
				got = append(got, f...)
				ended := ends[len(got)]
				if last := i == len(p.Fields)-1; ended == 0 && !last || last && (ended > 0) != (p.FI&1 == 0) {
					t.Fatalf("the field %d of %d, FI %d, ends at %d", i, len(p.Fields), p.FI, ended)
				}
				if ended > 0 {
					done = append(done, ended)
				}
			}
			if n := len(p.Done); n > len(done) || !slices.Equal(p.Done, done[len(done)-n:]) {
				t.Fatalf("done %v, want %v", p.Done, done)
			}
		}
		if !bytes.Equal(got, all) || len(done) != 60 {
			t.Fatalf("%d bytes of %d, %d texts", len(got), len(all), len(done))
		}
	}
}

// TestPacketsMayBe: what is built may be the fields of a packet, whose bytes are its head's and these.
func TestPacketsMayBe(t *testing.T) {
	r := rand.New(rand.NewSource(1))
	for range 500 {
		q := pushed(t)
		for range 1 + r.Intn(30) {
			push(t, q, long(1+r.Intn(600)))
		}
		room := 1 + r.Intn(3998)
		p, e := cut.Build(q, room, 11)
		u := umd.Packet{FI: p.FI, SN: 3, Fields: p.Fields}
		if n := umd.Size(u, 10); e != api.OK || n != 2+cut.Bytes(p, 11) || n > 2+room {
			t.Fatalf("of %d bytes: %d, %v", room, n, e)
		}
		room = 1 + r.Intn(3996)
		if p, e = cut.Build(q, room, 15); e == api.ErrNone {
			continue
		}
		a := amd.Packet{FI: p.FI, SN: 3, Fields: p.Fields}
		if n := amd.Size(a, 16); e != api.OK || n != amd.Head(false, 16)+cut.Bytes(p, 15) || n > 3+room {
			t.Fatalf("of %d bytes: %d, %v", room, n, e)
		}
	}
}

// rules 4 and 5 of the document

func TestWhatIsHandedOutIsNewMemory(t *testing.T) {
	q := pushed(t, "ab", "c", "d", "efgh")
	p, e := cut.Build(q, 11, 11)
	if e != api.OK {
		t.Fatalf("Build: %v", e)
	}
	wantPiece(t, p, 1, []uint64{1, 2, 3}, "ab", "c", "d", "ef")
	for _, f := range p.Fields {
		if cap(f) != len(f) {
			t.Errorf("%q has room for %d behind", f, cap(f)-len(f))
		}
		_ = append(f, 'y')
		for i := range f {
			f[i] = 'x'
		}
	}
	p.Done[0] = 9
	wantState(t, q, state{4, "gh", true, 2, []uint64{4}})
	wantPiece(t, p, 1, []uint64{9, 2, 3}, "xx", "x", "x", "xx")
	wantBuild(t, q, 6, 11, 2, []uint64{4}, "gh")
	wantPiece(t, p, 1, []uint64{9, 2, 3}, "xx", "x", "x", "xx")
}

func TestListsHaveNoRoomBehind(t *testing.T) {
	for many := 1; many <= api.MaxFields; many++ {
		p, _ := cut.Build(pushed(t, times("a", many)...), api.MaxPDU, 11)
		if len(p.Fields) != many || cap(p.Fields) != many || cap(p.Done) != many {
			t.Errorf("of %d texts room for %d fields, %d numbers", many, cap(p.Fields), cap(p.Done))
		}
	}
}

func TestBytesChangesNothing(t *testing.T) {
	l := [][]byte{[]byte("ab"), []byte("c"), []byte("de")}
	p := cut.Piece{FI: 1, Fields: l[:2], Done: []uint64{1}}
	if n := cut.Bytes(p, 11); n != 5 {
		t.Errorf("Bytes: %d", n)
	}
	wantPiece(t, p, 1, []uint64{1}, "ab", "c")
	if string(l[2]) != "de" {
		t.Errorf("behind it: %q", l[2])
	}
}

func TestQueuesAreTheirOwn(t *testing.T) {
	a, b := pushed(t, "ab"), pushed(t, "cd")
	wantBuild(t, a, 1, 11, 1, nil, "a")
	wantBuild(t, b, 2, 15, 0, []uint64{1}, "cd")
	wantBuild(t, a, 2, 15, 2, []uint64{1}, "b")
}
