package queue_test

import (
	"bytes"
	"math"
	"math/rand"
	"slices"
	"testing"

	"bowline/api"
	"bowline/queue"
)

func made(t *testing.T, room int) *queue.Queue {
	t.Helper()
	q, e := queue.New(room)
	if q == nil || e != api.OK {
		t.Fatalf("New(%d): %v", room, e)
	}
	return q
}

// pushed is a queue of texts.
func pushed(t *testing.T, texts ...string) *queue.Queue {
	t.Helper()
	q := made(t, api.MaxBytes)
	for i, text := range texts {
		wantPush(t, q, []byte(text), uint64(i+1), api.OK)
	}
	return q
}

func wantPush(t *testing.T, q *queue.Queue, b []byte, want uint64, e api.Errno) {
	t.Helper()
	if id, f := q.Push(b); id != want || f != e {
		t.Fatalf("Push of %d bytes: %d %v, want %d %v", len(b), id, f, want, e)
	}
}

func wantTake(t *testing.T, q *queue.Queue, n int, want string, all bool, e api.Errno) {
	t.Helper()
	if b, is, f := q.Take(n); string(b) != want || is != all || f != e {
		t.Fatalf("Take(%d): %q %v %v, want %q %v %v", n, b, is, f, want, all, e)
	}
}

func wantDiscard(t *testing.T, q *queue.Queue, id uint64, want api.Errno) {
	t.Helper()
	if e := q.Discard(id); e != want {
		t.Fatalf("Discard(%d): %v, want %v", id, e, want)
	}
}

func wantFront(t *testing.T, q *queue.Queue, id uint64, waits string, begun bool) {
	t.Helper()
	if n, b, is := q.Front(); n != id || string(b) != waits || is != begun {
		t.Fatalf("Front: %d %q %v, want %d %q %v", n, b, is, id, waits, begun)
	}
}

func wantWaits(t *testing.T, q *queue.Queue, bytes int, ids ...uint64) {
	t.Helper()
	if q.Bytes() != bytes || !slices.Equal(q.IDs(), ids) {
		t.Fatalf("Bytes %d, IDs %v, want %d, %v", q.Bytes(), q.IDs(), bytes, ids)
	}
}

func wantClear(t *testing.T, q *queue.Queue, want ...uint64) {
	t.Helper()
	if l := q.Clear(); !slices.Equal(l, want) {
		t.Fatalf("Clear: %v, want %v", l, want)
	}
	wantWaits(t, q, 0)
	wantFront(t, q, 0, "", false)
}

// P4.1

func TestNew(t *testing.T) {
	for _, room := range []int{1, 2, api.MaxSDU, api.MaxBytes - 1, api.MaxBytes} {
		q := made(t, room)
		wantWaits(t, q, 0)
		wantFront(t, q, 0, "", false)
		wantTake(t, q, 1, "", false, api.ErrNone)
		wantClear(t, q)
	}
	for _, room := range []int{0, -1, api.MaxBytes + 1, math.MinInt, math.MaxInt} {
		if q, e := queue.New(room); q != nil || e != api.ErrArg {
			t.Errorf("New(%d): %v %v", room, q != nil, e)
		}
	}
}

func TestNoQueue(t *testing.T) {
	for _, q := range []*queue.Queue{nil, {}} {
		for range 2 {
			for _, many := range []int{0, 1, api.MaxSDU, api.MaxSDU + 1} {
				wantPush(t, q, make([]byte, many), 0, api.ErrNil)
			}
			for _, n := range []int{math.MinInt, -1, 0, 1, math.MaxInt} {
				wantTake(t, q, n, "", false, api.ErrNil)
			}
			for _, id := range []uint64{0, 1, math.MaxUint64} {
				wantDiscard(t, q, id, api.ErrNil)
			}
			wantClear(t, q)
		}
	}
}

func TestFrontIsTheFirst(t *testing.T) {
	q := pushed(t, "ab", "c")
	wantFront(t, q, 1, "ab", false)
	wantTake(t, q, 1, "a", false, api.OK)
	wantFront(t, q, 1, "b", true)
	wantTake(t, q, 1, "b", true, api.OK)
	wantFront(t, q, 2, "c", false)
	wantWaits(t, q, 1, 2)
	wantTake(t, q, 1, "c", true, api.OK)
	wantFront(t, q, 0, "", false)
	wantWaits(t, q, 0)
}

func TestQueuesAreTheirOwn(t *testing.T) {
	a, b := made(t, 9), made(t, 9)
	wantPush(t, a, []byte("ab"), 1, api.OK)
	wantWaits(t, b, 0)
	wantPush(t, b, []byte("c"), 1, api.OK)
	wantFront(t, a, 1, "ab", false)
	wantFront(t, b, 1, "c", false)
}

// P4.2: Push

func TestPushLengths(t *testing.T) {
	q := made(t, api.MaxBytes)
	wantPush(t, q, nil, 0, api.ErrArg)
	wantPush(t, q, []byte{}, 0, api.ErrArg)
	wantPush(t, q, make([]byte, api.MaxSDU+1), 0, api.ErrLong)
	wantPush(t, q, make([]byte, api.MaxBytes+1), 0, api.ErrLong)
	wantWaits(t, q, 0)
	wantPush(t, q, make([]byte, api.MaxSDU), 1, api.OK)
	wantPush(t, q, []byte{0}, 2, api.OK)
	wantWaits(t, q, api.MaxSDU+1, 1, 2)
}

func TestPushRoom(t *testing.T) {
	q := made(t, 5)
	wantPush(t, q, []byte("abcdef"), 0, api.ErrFull)
	wantWaits(t, q, 0)
	wantPush(t, q, []byte("abcd"), 1, api.OK)
	wantPush(t, q, []byte("ef"), 0, api.ErrFull)
	wantPush(t, q, nil, 0, api.ErrArg)
	wantPush(t, q, make([]byte, api.MaxSDU+1), 0, api.ErrLong)
	wantPush(t, q, []byte("e"), 2, api.OK)
	wantPush(t, q, []byte("f"), 0, api.ErrFull)
	wantWaits(t, q, 5, 1, 2)
	wantFront(t, q, 1, "abcd", false)
	// what is taken, discarded or cleared gives room again
	wantTake(t, q, 2, "ab", false, api.OK)
	wantPush(t, q, []byte("xyz"), 0, api.ErrFull)
	wantPush(t, q, []byte("xy"), 3, api.OK)
	wantDiscard(t, q, 2, api.OK)
	wantPush(t, q, []byte("z"), 4, api.OK)
	wantPush(t, q, []byte("z"), 0, api.ErrFull)
	wantClear(t, q, 1, 3, 4)
	wantPush(t, q, []byte("abcde"), 5, api.OK)
	wantFront(t, q, 5, "abcde", false)
}

func TestPushMostBytes(t *testing.T) {
	q := made(t, api.MaxBytes)
	for i := range api.MaxBytes / api.MaxSDU {
		wantPush(t, q, make([]byte, api.MaxSDU), uint64(i+1), api.OK)
	}
	wantPush(t, q, []byte{1}, 0, api.ErrFull)
	if q.Bytes() != api.MaxBytes {
		t.Errorf("Bytes: %d", q.Bytes())
	}
}

func TestPushMostTexts(t *testing.T) {
	q := made(t, api.MaxBytes)
	for i := range api.MaxQueue {
		wantPush(t, q, []byte{byte(i), 1}, uint64(i+1), api.OK)
	}
	want := q.IDs()
	wantPush(t, q, []byte{9}, 0, api.ErrFull)
	wantPush(t, q, nil, 0, api.ErrArg)
	wantPush(t, q, make([]byte, api.MaxSDU+1), 0, api.ErrLong)
	wantWaits(t, q, 2*api.MaxQueue, want...)
	wantTake(t, q, 1, "\x00", false, api.OK)
	wantPush(t, q, []byte{9}, 0, api.ErrFull)
	wantTake(t, q, 1, "\x01", true, api.OK)
	wantPush(t, q, []byte{9}, api.MaxQueue+1, api.OK)
	wantPush(t, q, []byte{9}, 0, api.ErrFull)
	wantDiscard(t, q, 30, api.OK)
	wantPush(t, q, []byte{9}, api.MaxQueue+2, api.OK)
	wantPush(t, q, []byte{9}, 0, api.ErrFull)
}

func TestNumbersGoOn(t *testing.T) {
	q := pushed(t, "a", "b")
	wantTake(t, q, 1, "a", true, api.OK)
	wantTake(t, q, 1, "b", true, api.OK)
	wantPush(t, q, []byte("c"), 3, api.OK)
	wantPush(t, q, nil, 0, api.ErrArg)
	wantPush(t, q, []byte("d"), 4, api.OK)
	wantDiscard(t, q, 4, api.OK)
	wantPush(t, q, []byte("e"), 5, api.OK)
	wantClear(t, q, 3, 5)
	wantPush(t, q, []byte("f"), 6, api.OK)
	wantWaits(t, q, 1, 6)
}

// P4.2: Take

func TestTakeExample(t *testing.T) {
	q := pushed(t, "ab")
	wantTake(t, q, 1, "a", false, api.OK)
	wantWaits(t, q, 1, 1)
	wantTake(t, q, 1, "b", true, api.OK)
	wantWaits(t, q, 0)
	wantTake(t, q, 1, "", false, api.ErrNone)
}

func TestTakeWrong(t *testing.T) {
	q := made(t, 9)
	for _, n := range []int{math.MinInt, -1, 0, 1, 2, math.MaxInt} {
		wantTake(t, q, n, "", false, api.ErrNone)
	}
	q = pushed(t, "abc", "defgh")
	for _, n := range []int{math.MinInt, -1, 0, 4, 5, 8, math.MaxInt} {
		wantTake(t, q, n, "", false, api.ErrArg)
	}
	wantWaits(t, q, 8, 1, 2)
	wantFront(t, q, 1, "abc", false)
	wantTake(t, q, 2, "ab", false, api.OK)
	for _, n := range []int{math.MinInt, 0, 2, 3, math.MaxInt} {
		wantTake(t, q, n, "", false, api.ErrArg)
	}
	wantFront(t, q, 1, "c", true)
	wantTake(t, q, 1, "c", true, api.OK)
	wantTake(t, q, 6, "", false, api.ErrArg)
	wantTake(t, q, 5, "defgh", true, api.OK)
}

// P4.2: Discard

func TestDiscard(t *testing.T) {
	for id, want := range map[uint64][]uint64{1: {2, 3}, 2: {1, 3}, 3: {1, 2}} {
		q := pushed(t, "ab", "cd", "ef")
		wantDiscard(t, q, id, api.OK)
		wantWaits(t, q, 4, want...)
		wantDiscard(t, q, id, api.ErrNone)
		wantWaits(t, q, 4, want...)
		for _, other := range want {
			wantTake(t, q, 2, "abcdef"[2*other-2:2*other], true, api.OK)
		}
		wantWaits(t, q, 0)
	}
}

func TestDiscardWrong(t *testing.T) {
	q := pushed(t, "ab", "cd")
	for _, id := range []uint64{0, 3, math.MaxUint64} {
		wantDiscard(t, q, id, api.ErrNone)
	}
	wantTake(t, q, 1, "a", false, api.OK)
	wantDiscard(t, q, 1, api.ErrState)
	wantWaits(t, q, 3, 1, 2)
	wantFront(t, q, 1, "b", true)
	wantDiscard(t, q, 2, api.OK)
	wantTake(t, q, 1, "b", true, api.OK)
	wantDiscard(t, q, 1, api.ErrNone)
	wantDiscard(t, q, 2, api.ErrNone)
	wantWaits(t, q, 0)
}

func TestDiscardFirst(t *testing.T) {
	q := pushed(t, "ab", "cd")
	wantDiscard(t, q, 1, api.OK)
	wantFront(t, q, 2, "cd", false)
	wantDiscard(t, q, 2, api.OK)
	wantFront(t, q, 0, "", false)
}

// P4.2: Clear

func TestClear(t *testing.T) {
	q := pushed(t, "ab", "cd", "ef")
	wantTake(t, q, 1, "a", false, api.OK)
	wantDiscard(t, q, 2, api.OK)
	wantClear(t, q, 1, 3)
	wantClear(t, q)
	wantTake(t, q, 1, "", false, api.ErrNone)
	wantDiscard(t, q, 1, api.ErrNone)
	// nothing of the one that was begun is left
	wantPush(t, q, []byte("gh"), 4, api.OK)
	wantFront(t, q, 4, "gh", false)
	wantDiscard(t, q, 4, api.OK)
}

// P4.3 and P4.4: against a queue that is held as plainly as can be

type waiting struct {
	id    uint64
	text  string
	taken int
}

type model struct {
	room int
	last uint64
	l    []waiting
}

func (m *model) bytes() int {
	n := 0
	for _, x := range m.l {
		n += len(x.text) - x.taken
	}
	return n
}

func (m *model) ids() []uint64 {
	var l []uint64
	for _, x := range m.l {
		l = append(l, x.id)
	}
	return l
}

func (m *model) push(t *testing.T, q *queue.Queue, b []byte) {
	t.Helper()
	want := api.OK
	switch {
	case len(b) == 0:
		want = api.ErrArg
	case len(b) > 1000:
		want = api.ErrLong
	case len(m.l) == 64 || m.bytes()+len(b) > m.room:
		want = api.ErrFull
	}
	if want != api.OK {
		wantPush(t, q, b, 0, want)
		return
	}
	m.last++
	m.l = append(m.l, waiting{id: m.last, text: string(b)})
	wantPush(t, q, b, m.last, api.OK)
}

func (m *model) take(t *testing.T, q *queue.Queue, n int) {
	t.Helper()
	if len(m.l) == 0 {
		wantTake(t, q, n, "", false, api.ErrNone)
		return
	}
	x := &m.l[0]
	if n < 1 || n > len(x.text)-x.taken {
		wantTake(t, q, n, "", false, api.ErrArg)
		return
	}
	x.taken += n
	all := x.taken == len(x.text)
	wantTake(t, q, n, x.text[x.taken-n:x.taken], all, api.OK)
	if all {
		m.l = m.l[1:]
	}
}

func (m *model) discard(t *testing.T, q *queue.Queue, id uint64) {
	t.Helper()
	at := slices.IndexFunc(m.l, func(x waiting) bool { return x.id == id })
	switch {
	case at < 0:
		wantDiscard(t, q, id, api.ErrNone)
	case m.l[at].taken > 0:
		wantDiscard(t, q, id, api.ErrState)
	default:
		wantDiscard(t, q, id, api.OK)
		m.l = slices.Delete(m.l, at, at+1)
	}
}

func (m *model) compare(t *testing.T, q *queue.Queue) {
	t.Helper()
	wantWaits(t, q, m.bytes(), m.ids()...)
	if q.Bytes() > m.room {
		t.Fatalf("Bytes: %d of %d", q.Bytes(), m.room)
	}
	if len(m.l) == 0 {
		wantFront(t, q, 0, "", false)
		return
	}
	x := m.l[0]
	wantFront(t, q, x.id, x.text[x.taken:], x.taken > 0)
}

func TestAgainstPlainQueue(t *testing.T) {
	for seed := range int64(60) {
		r := rand.New(rand.NewSource(seed))
		room := 1 + r.Intn(60)
		if seed%3 == 0 {
			room = 500 + r.Intn(2000)
		}
		m, q := &model{room: room}, made(t, room)
		for range 400 {
			switch k := r.Intn(100); {
			case k < 45:
				b := make([]byte, r.Intn(14))
				r.Read(b)
				m.push(t, q, b)
			case k < 48:
				m.push(t, q, make([]byte, 990+r.Intn(20)))
			case k < 80:
				m.take(t, q, r.Intn(9)-1)
			case k < 99:
				m.discard(t, q, m.last+1-uint64(r.Intn(9)))
			default:
				wantClear(t, q, m.ids()...)
				m.l = nil
			}
			m.compare(t, q)
		}
	}
}

// P4.3

func TestPiecesAreTheTexts(t *testing.T) {
	for seed := range int64(20) {
		r := rand.New(rand.NewSource(seed))
		q := made(t, api.MaxBytes)
		var texts [][]byte
		for range 20 {
			b := make([]byte, 1+r.Intn(200))
			r.Read(b)
			texts = append(texts, b)
			wantPush(t, q, b, uint64(len(texts)), api.OK)
		}
		for i, want := range texts {
			var got []byte
			for all := false; !all; {
				id, waits, begun := q.Front()
				if id != uint64(i+1) || begun != (len(got) > 0) {
					t.Fatalf("Front: %d %v", id, begun)
				}
				b, is, e := q.Take(1 + r.Intn(len(waits)))
				if e != api.OK {
					t.Fatalf("Take: %v", e)
				}
				got, all = append(got, b...), is
			}
			if !bytes.Equal(got, want) {
				t.Fatalf("the text %d: %x, want %x", i+1, got, want)
			}
		}
		wantWaits(t, q, 0)
	}
}

// rule 5 of the document

func TestPushKeepsNothing(t *testing.T) {
	q := made(t, 9)
	under := []byte("abcdef")
	wantPush(t, q, under[:3], 1, api.OK)
	if string(under) != "abcdef" {
		t.Errorf("what was handed in is changed: %q", under)
	}
	copy(under, "xxxxxx")
	wantFront(t, q, 1, "abc", false)
	wantTake(t, q, 3, "abc", true, api.OK)
	if string(under) != "xxxxxx" {
		t.Errorf("what was handed in is changed: %q", under)
	}
}

func TestWhatIsHandedOutIsNewMemory(t *testing.T) {
	q := pushed(t, "abcdef", "gh")
	_, front, _ := q.Front()
	ids := q.IDs()
	taken, _, _ := q.Take(2)
	for _, b := range [][]byte{front, taken} {
		if cap(b) != len(b) {
			t.Errorf("%q has room for %d behind", b, cap(b)-len(b))
		}
		for i := range b {
			b[i] = 'x'
		}
		_ = append(b, 'y')
	}
	ids[0], ids[1] = 8, 9
	wantWaits(t, q, 6, 1, 2)
	wantFront(t, q, 1, "cdef", true)
	wantTake(t, q, 4, "cdef", true, api.OK)
	if string(front) != "xxxxxx" || string(taken) != "xx" {
		t.Errorf("a later call changes what was handed out: %q %q", front, taken)
	}
	gone := q.Clear()
	gone[0] = 7
	wantPush(t, q, []byte("i"), 3, api.OK)
	wantWaits(t, q, 1, 3)
}

// P4.4 and P1: what is refused changes nothing, whatever it is

func TestRefusedChangesNothing(t *testing.T) {
	q := made(t, 6)
	wantPush(t, q, []byte("ab"), 1, api.OK)
	wantPush(t, q, []byte("cdef"), 2, api.OK)
	wantTake(t, q, 1, "a", false, api.OK)
	for _, many := range []int{0, 2, 6, 7, api.MaxSDU, api.MaxSDU + 1} {
		if _, e := q.Push(make([]byte, many)); e == api.OK {
			t.Errorf("Push of %d bytes was not refused", many)
		}
	}
	for _, n := range []int{math.MinInt, -1, 0, 2, 3, math.MaxInt} {
		wantTake(t, q, n, "", false, api.ErrArg)
	}
	for _, id := range []uint64{0, 3, math.MaxUint64} {
		wantDiscard(t, q, id, api.ErrNone)
	}
	wantDiscard(t, q, 1, api.ErrState)
	wantWaits(t, q, 5, 1, 2)
	wantFront(t, q, 1, "b", true)
	wantTake(t, q, 1, "b", true, api.OK)
	wantTake(t, q, 4, "cdef", true, api.OK)
	wantPush(t, q, []byte("g"), 3, api.OK)
}
