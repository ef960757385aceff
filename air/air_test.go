package air_test

import (
	"bytes"
	"encoding/hex"
	"math"
	"math/bits"
	"math/rand"
	"reflect"
	"slices"
	"testing"

	"bowline/air"
	"bowline/api"
)

// noPlaces are numbers at which nothing ever waits.
var noPlaces = []int{-1, -2, math.MinInt, math.MaxInt, api.MaxAir, -api.MaxAir, 1 << 32, -1 << 32}

// some is so many bytes, the same ones for each seed.
func some(seed int64, n int) []byte {
	b := make([]byte, n)
	rand.New(rand.NewSource(seed)).Read(b)
	return b
}

// with is a way on which blocks wait.
func with(t *testing.T, blocks ...string) *air.Way {
	t.Helper()
	w := air.New()
	for _, b := range blocks {
		wantSend(t, w, []byte(b), api.OK)
	}
	return w
}

// full is a way on which as many blocks wait as may, each of the two bytes of its place.
func full(t *testing.T) *air.Way {
	t.Helper()
	var l []string
	for i := range api.MaxAir {
		l = append(l, string([]byte{byte(i >> 8), byte(i)}))
	}
	return with(t, l...)
}

// waiting is all blocks that wait.
func waiting(t *testing.T, w *air.Way) []string {
	t.Helper()
	l := []string{}
	for i := range w.Len() {
		b, e := w.At(i)
		if e != api.OK {
			t.Fatalf("At(%d) of %d: %v", i, w.Len(), e)
		}
		l = append(l, string(b))
	}
	return l
}

func wantWaiting(t *testing.T, w *air.Way, want ...string) {
	t.Helper()
	if l := waiting(t, w); !slices.Equal(l, want) {
		t.Fatalf("%.300q wait, want %.300q", l, want)
	}
	wantNothingAt(t, w, w.Len(), api.ErrArg)
}

func wantCounts(t *testing.T, w *air.Way, sent, lost int) {
	t.Helper()
	if s, l := w.Counts(); s != sent || l != lost {
		t.Fatalf("Counts: %d %d, want %d %d", s, l, sent, lost)
	}
}

func wantSend(t *testing.T, w *air.Way, b []byte, want api.Errno) {
	t.Helper()
	if e := w.Send(b); e != want {
		t.Fatalf("Send of %d bytes: %v, want %v", len(b), e, want)
	}
}

func wantTake(t *testing.T, w *air.Way, i int, want string) {
	t.Helper()
	if b, e := w.Take(i); string(b) != want || e != api.OK {
		t.Fatalf("Take(%d): %q %v, want %q", i, b, e, want)
	}
}

func wantLose(t *testing.T, w *air.Way, i int, want api.Errno) {
	t.Helper()
	if e := w.Lose(i); e != want {
		t.Fatalf("Lose(%d): %v, want %v", i, e, want)
	}
}

func wantMove(t *testing.T, w *air.Way, i, to int, want api.Errno) {
	t.Helper()
	if e := w.Move(i, to); e != want {
		t.Fatalf("Move(%d, %d): %v, want %v", i, to, e, want)
	}
}

func wantSpoil(t *testing.T, w *air.Way, i, at, quarters int, want api.Errno) {
	t.Helper()
	if e := w.Spoil(i, at, quarters); e != want {
		t.Fatalf("Spoil(%d, %d, %d): %v, want %v", i, at, quarters, e, want)
	}
}

// wantNothingAt wants an error of each call that asks for a block at a place.
func wantNothingAt(t *testing.T, w *air.Way, i int, want api.Errno) {
	t.Helper()
	if b, e := w.At(i); b != nil || e != want {
		t.Fatalf("At(%d): %q %v, want %v", i, b, e, want)
	}
	if b, e := w.Take(i); b != nil || e != want {
		t.Fatalf("Take(%d): %q %v, want %v", i, b, e, want)
	}
	wantLose(t, w, i, want)
	wantMove(t, w, i, 0, want)
	wantMove(t, w, 0, i, want)
	wantMove(t, w, i, i, want)
	for _, at := range []int{-1, 0, 1, 4, math.MaxInt} {
		wantSpoil(t, w, i, at, 1, want)
	}
}

// P31.1

func TestNew(t *testing.T) {
	w := air.New()
	wantWaiting(t, w)
	wantCounts(t, w, 0, 0)
	for _, i := range append(noPlaces, 0, 1) {
		wantNothingAt(t, w, i, api.ErrArg)
	}
	w.Clear()
	wantWaiting(t, w)
	wantCounts(t, w, 0, 0)
}

func TestNoWay(t *testing.T) {
	for _, w := range []*air.Way{nil, {}} {
		for range 2 {
			for _, n := range []int{0, 1, api.MaxGrant, api.MaxGrant + 1} {
				wantSend(t, w, make([]byte, n), api.ErrNil)
			}
			for _, i := range append(noPlaces, 0, 1) {
				wantNothingAt(t, w, i, api.ErrNil)
			}
			if n := w.Len(); n != 0 {
				t.Fatalf("Len: %d", n)
			}
			wantCounts(t, w, 0, 0)
			w.Clear()
		}
	}
}

func TestCalls(t *testing.T) {
	var names []string
	for m := range reflect.TypeFor[*air.Way]().Methods() {
		names = append(names, m.Name)
	}
	want := []string{"At", "Clear", "Counts", "Len", "Lose", "Move", "Send", "Spoil", "Take"}
	if !slices.Equal(names, want) {
		t.Errorf("the calls %v, want %v", names, want)
	}
}

func TestSend(t *testing.T) {
	w := air.New()
	var want []string
	for i, n := range []int{3, 0, 1, api.MaxGrant, api.MaxGrant - 1, 0, 3} {
		b := some(int64(i), n)
		wantSend(t, w, b, api.OK)
		want = append(want, string(b))
		wantWaiting(t, w, want...)
		wantCounts(t, w, i+1, 0)
	}
	for _, n := range []int{api.MaxGrant + 1, api.MaxGrant + 2, api.MaxText} {
		wantSend(t, w, make([]byte, n), api.ErrLong)
		wantWaiting(t, w, want...)
		wantCounts(t, w, len(want), 0)
	}
}

func TestSendOfAsMuchAsMayWait(t *testing.T) {
	w := full(t)
	want := waiting(t, w)
	for _, n := range []int{0, 1, api.MaxGrant} {
		wantSend(t, w, make([]byte, n), api.ErrFull)
	}
	wantSend(t, w, make([]byte, api.MaxGrant+1), api.ErrLong) // that one first
	wantWaiting(t, w, want...)
	wantCounts(t, w, api.MaxAir, 0)
	wantTake(t, w, 7, want[7])
	wantSend(t, w, []byte("x"), api.OK)
	wantSend(t, w, []byte("y"), api.ErrFull)
	wantLose(t, w, 0, api.OK)
	wantSend(t, w, []byte("y"), api.OK)
	wantSend(t, w, []byte("z"), api.ErrFull)
	wantWaiting(t, w, append(slices.Delete(want, 7, 8)[1:], "x", "y")...)
	wantCounts(t, w, api.MaxAir+2, 1)
}

func TestTake(t *testing.T) {
	w := with(t, "a", "bc", "", "def")
	for _, i := range append(noPlaces, 4, 5) {
		wantNothingAt(t, w, i, api.ErrArg)
	}
	wantWaiting(t, w, "a", "bc", "", "def")
	wantTake(t, w, 1, "bc")
	wantWaiting(t, w, "a", "", "def")
	wantTake(t, w, 2, "def")
	wantWaiting(t, w, "a", "")
	wantTake(t, w, 0, "a")
	wantTake(t, w, 0, "")
	wantWaiting(t, w)
	wantCounts(t, w, 4, 0)
}

func TestLose(t *testing.T) {
	w := with(t, "a", "bc", "", "def")
	wantLose(t, w, 1, api.OK)
	wantWaiting(t, w, "a", "", "def")
	wantCounts(t, w, 4, 1)
	wantLose(t, w, 2, api.OK)
	wantLose(t, w, 0, api.OK)
	wantWaiting(t, w, "")
	wantLose(t, w, 0, api.OK)
	wantCounts(t, w, 4, 4)
	wantLose(t, w, 0, api.ErrArg)
	wantCounts(t, w, 4, 4)
}

func TestMove(t *testing.T) {
	for _, c := range []struct {
		i, to int
		want  []string
	}{
		{0, 0, []string{"a", "b", "c", "d"}},
		{3, 3, []string{"a", "b", "c", "d"}},
		{0, 1, []string{"b", "a", "c", "d"}},
		{0, 3, []string{"b", "c", "d", "a"}},
		{1, 2, []string{"a", "c", "b", "d"}},
		{2, 1, []string{"a", "c", "b", "d"}},
		{3, 0, []string{"d", "a", "b", "c"}},
		{3, 1, []string{"a", "d", "b", "c"}},
	} {
		w := with(t, "a", "b", "c", "d")
		wantMove(t, w, c.i, c.to, api.OK)
		wantWaiting(t, w, c.want...)
		wantCounts(t, w, 4, 0)
	}
}

// TestMoveFromEachToEach: the block stands at its new place, the others in their order, for each two places there are.
func TestMoveFromEachToEach(t *testing.T) {
	for _, n := range []int{1, 2, 5, 9} {
		var l []string
		for i := range n {
			l = append(l, string(rune('a'+i)))
		}
		for i := -1; i <= n; i++ {
			for to := -1; to <= n; to++ {
				w := with(t, l...)
				if min(i, to) < 0 || max(i, to) == n {
					wantMove(t, w, i, to, api.ErrArg)
					wantWaiting(t, w, l...)
					continue
				}
				wantMove(t, w, i, to, api.OK)
				got := waiting(t, w)
				if got[to] != l[i] {
					t.Fatalf("Move(%d, %d) of %d: %q", i, to, n, got)
				}
				others := slices.Delete(slices.Clone(l), i, i+1)
				if !slices.Equal(slices.Delete(got, to, to+1), others) {
					t.Fatalf("Move(%d, %d) of %d: the others are not in their order", i, to, n)
				}
			}
		}
	}
}

func TestMoveOnAFullWay(t *testing.T) {
	w := full(t)
	l := waiting(t, w)
	wantMove(t, w, 0, api.MaxAir-1, api.OK)
	wantMove(t, w, 0, api.MaxAir, api.ErrArg)
	wantMove(t, w, api.MaxAir, 0, api.ErrArg)
	wantWaiting(t, w, append(l[1:], l[0])...)
}

func TestClear(t *testing.T) {
	w := with(t, "a", "b", "c", "d")
	wantTake(t, w, 0, "a")
	wantLose(t, w, 0, api.OK)
	w.Clear()
	wantWaiting(t, w)
	wantCounts(t, w, 4, 3)
	w.Clear()
	wantCounts(t, w, 4, 3)
	wantSend(t, w, []byte("e"), api.OK)
	wantWaiting(t, w, "e")
	wantCounts(t, w, 5, 3)
	w = full(t)
	w.Clear()
	wantWaiting(t, w)
	wantCounts(t, w, api.MaxAir, api.MaxAir)
}

// P31.2

// round is the two bits of the four points, as one comes to them by quarters.
var round = []byte{0b00, 0b10, 0b11, 0b01}

// spoilt is a byte of which a point is turned, found by going round.
func spoilt(b byte, at, quarters int) byte {
	shift := 6 - 2*at
	from := slices.Index(round, b>>shift&3)
	to := ((from+quarters%4)%4 + 4) % 4
	return b&^(3<<shift) | round[to]<<shift
}

func TestExample(t *testing.T) {
	w := with(t, "\x1B")
	wantSpoil(t, w, 0, 0, 2, api.OK)
	b, e := w.Take(0)
	if hex.EncodeToString(b) != "db" || e != api.OK {
		t.Errorf("Take: %x %v", b, e)
	}
}

func TestSpoil(t *testing.T) {
	for _, c := range []struct {
		at, quarters int
		want         string
	}{
		{0, 0, "1B"}, {0, 1, "9B"}, {0, 2, "DB"}, {0, 3, "5B"}, {0, 4, "1B"}, {0, -1, "5B"}, {0, -2, "DB"}, {0, 5, "9B"},
		{1, 1, "0B"}, {1, 2, "2B"}, {1, 3, "3B"},
		{2, 1, "1F"}, {2, 2, "17"}, {2, 3, "13"},
		{3, 1, "19"}, {3, 2, "18"}, {3, 3, "1A"},
	} {
		b, _ := hex.DecodeString(c.want)
		w := with(t, "\x1B")
		wantSpoil(t, w, 0, c.at, c.quarters, api.OK)
		wantWaiting(t, w, string(b))
		wantCounts(t, w, 1, 0)
	}
}

func TestSpoilOfEachByte(t *testing.T) {
	quarters := []int{0, 1, 2, 3, 4, 5, -1, -2, -3, -4, -5, 1 << 40, 1<<40 + 3, math.MaxInt, math.MinInt, math.MinInt + 1}
	for v := range 256 {
		for at := range 4 {
			for _, k := range quarters {
				w := with(t, string([]byte{byte(v)}))
				wantSpoil(t, w, 0, at, k, api.OK)
				wantWaiting(t, w, string([]byte{spoilt(byte(v), at, k)}))
			}
		}
	}
}

func TestSpoilOfEachPoint(t *testing.T) {
	for _, n := range []int{1, 2, 3, 100, api.MaxGrant} {
		b := some(int64(n), n)
		w := with(t, "ahead", string(b), "behind")
		for _, at := range []int{0, 1, 2, 3, 4, 5, 4*n - 5, 4*n - 4, 4*n - 3, 4*n - 2, 4*n - 1} {
			if at >= 4*n || at < 0 {
				continue
			}
			wantSpoil(t, w, 1, at, 1, api.OK)
			b[at/4] = spoilt(b[at/4], at%4, 1)
			wantWaiting(t, w, "ahead", string(b), "behind")
		}
		for _, at := range []int{-1, -4, math.MinInt, 4 * n, 4*n + 1, math.MaxInt, 1 << 32, 1 << 62} {
			for _, k := range []int{0, 1, 4} {
				wantSpoil(t, w, 1, at, k, api.ErrArg)
			}
		}
		wantWaiting(t, w, "ahead", string(b), "behind")
	}
	w := with(t, "")
	for _, at := range []int{-1, 0, 1} {
		wantSpoil(t, w, 0, at, 1, api.ErrArg)
	}
}

// P31.3

// TestTurnedBack: by four quarters in all a block is as it was, by fewer another one, in one byte alone.
func TestTurnedBack(t *testing.T) {
	b := string(some(1, 40))
	for at := range 4 * len(b) {
		for _, first := range []int{1, 2, 3, 5, -1, -2, -3} {
			w := with(t, b)
			wantSpoil(t, w, 0, at, first, api.OK)
			one := []byte(waiting(t, w)[0])
			turned := 0
			for i := range one {
				turned += min(1, bits.OnesCount8(one[i]^b[i]))
			}
			if len(one) != len(b) || turned != 1 || one[at/4] == b[at/4] {
				t.Fatalf("Spoil(0, %d, %d) of %x: %x", at, first, b, one)
			}
			wantSpoil(t, w, 0, at, 4-first, api.OK)
			wantWaiting(t, w, b)
			wantSpoil(t, w, 0, at, first, api.OK)
			wantSpoil(t, w, 0, at, -first, api.OK)
			wantWaiting(t, w, b)
		}
	}
}

// P31.4

// list is what a way is, word by word: the texts that wait, and what became of the others.
type list struct {
	waits             []string
	sent, lost, taken int
}

func (l *list) is(i int) bool { return i >= 0 && i < len(l.waits) }

// fault is what is asked for of a place.
func (l *list) fault(i int) api.Errno {
	if l.is(i) {
		return api.OK
	}
	return api.ErrArg
}

func (l *list) cut(i int) string {
	b := l.waits[i]
	l.waits = slices.Delete(l.waits, i, i+1)
	return b
}

// play is a call at a way and at its list: which one, and what it told.
func (l *list) play(t *testing.T, r *rand.Rand, w *air.Way) (string, api.Errno) {
	t.Helper()
	i := r.Intn(len(l.waits)+4) - 2
	switch what := r.Intn(800); {
	case what < 360:
		return "send", l.send(t, w, some(r.Int63(), r.Intn(9)))
	case what < 440:
		return "take", l.take(t, w, i)
	case what < 520:
		return "lose", l.lose(t, w, i)
	case what < 640:
		return "move", l.move(t, w, i, r.Intn(len(l.waits)+4)-2)
	case what < 799:
		return "spoil", l.spoil(t, w, i, r.Intn(40)-2, r.Intn(20)-10)
	}
	w.Clear()
	l.lost += len(l.waits)
	l.waits = l.waits[:0]
	return "clear", api.OK
}

func (l *list) send(t *testing.T, w *air.Way, b []byte) api.Errno {
	t.Helper()
	if len(l.waits) == api.MaxAir {
		wantSend(t, w, b, api.ErrFull)
		return api.ErrFull
	}
	wantSend(t, w, b, api.OK)
	l.waits = append(l.waits, string(b))
	l.sent++
	return api.OK
}

func (l *list) take(t *testing.T, w *air.Way, i int) api.Errno {
	t.Helper()
	if !l.is(i) {
		wantNothingAt(t, w, i, api.ErrArg)
		return api.ErrArg
	}
	wantTake(t, w, i, l.cut(i))
	l.taken++
	return api.OK
}

func (l *list) lose(t *testing.T, w *air.Way, i int) api.Errno {
	t.Helper()
	e := l.fault(i)
	wantLose(t, w, i, e)
	if e == api.OK {
		l.cut(i)
		l.lost++
	}
	return e
}

func (l *list) move(t *testing.T, w *air.Way, i, to int) api.Errno {
	t.Helper()
	e := max(l.fault(i), l.fault(to))
	wantMove(t, w, i, to, e)
	if e == api.OK {
		b := l.cut(i)
		l.waits = slices.Insert(l.waits, to, b)
	}
	return e
}

func (l *list) spoil(t *testing.T, w *air.Way, i, at, quarters int) api.Errno {
	t.Helper()
	e := l.fault(i)
	if e == api.OK && (at < 0 || at >= 4*len(l.waits[i])) {
		e = api.ErrArg
	}
	wantSpoil(t, w, i, at, quarters, e)
	if e == api.OK {
		b := []byte(l.waits[i])
		b[at/4] = spoilt(b[at/4], at%4, quarters)
		l.waits[i] = string(b)
	}
	return e
}

// TestAsTheModel: what was sent is taken, lost, or waits, whatever is done.
func TestAsTheModel(t *testing.T) {
	type met struct {
		call string
		e    api.Errno
	}
	often := map[met]int{}
	for seed := range int64(40) {
		r := rand.New(rand.NewSource(seed))
		w, l := air.New(), &list{}
		for range 1500 {
			call, e := l.play(t, r, w)
			often[met{call, e}]++
			wantCounts(t, w, l.sent, l.lost)
			if w.Len() != len(l.waits) || l.sent != l.taken+l.lost+w.Len() {
				t.Fatalf("Len: %d, want %d", w.Len(), len(l.waits))
			}
			if r.Intn(10) == 0 {
				wantWaiting(t, w, l.waits...)
			}
		}
		wantWaiting(t, w, l.waits...)
	}
	for call, errors := range map[string][]api.Errno{
		"send":  {api.OK, api.ErrFull},
		"take":  {api.OK, api.ErrArg},
		"lose":  {api.OK, api.ErrArg},
		"move":  {api.OK, api.ErrArg},
		"spoil": {api.OK, api.ErrArg},
		"clear": {api.OK},
	} {
		for _, e := range errors {
			if n := often[met{call, e}]; n < 20 {
				t.Errorf("%s told %v %d times", call, e, n)
			}
		}
	}
}

// rules 4 and 5 of the document

func TestWhatIsHandedInIsNotKept(t *testing.T) {
	under := []byte("abcxyz")
	w := air.New()
	wantSend(t, w, under[:3], api.OK)
	wantSpoil(t, w, 0, 3, 2, api.OK)
	if string(under) != "abcxyz" {
		t.Errorf("what was handed in is %q", under)
	}
	copy(under, "......")
	wantWaiting(t, w, "bbc")
}

func TestWhatIsHandedOutIsNewMemory(t *testing.T) {
	w := with(t, "abc", "def", "ghi")
	for _, lay := range []func(int) ([]byte, api.Errno){w.At, w.At, w.Take} {
		b, e := lay(1)
		if string(b) != "def" || cap(b) != 3 || e != api.OK {
			t.Fatalf("%q %v, room for %d", b, e, cap(b))
		}
		clear(b)
	}
	b, _ := w.At(0)
	wantSpoil(t, w, 0, 0, 1, api.OK)
	if string(b) != "abc" {
		t.Errorf("what was handed out is turned, too: %q", b)
	}
	taken, _ := w.Take(1)
	wantSend(t, w, []byte("jkl"), api.OK)
	wantSpoil(t, w, 1, 0, 1, api.OK)
	_ = append(taken, "more"...)
	if !bytes.Equal(taken, []byte("ghi")) {
		t.Errorf("what was taken is another one: %q", taken)
	}
	wantWaiting(t, w, "!bc", "*kl")
}

// Two ways have nothing in common.
func TestSideBySide(t *testing.T) {
	v, w := with(t, "abc"), with(t, "abc")
	wantSpoil(t, v, 0, 0, 1, api.OK)
	wantSend(t, v, []byte("d"), api.OK)
	wantLose(t, v, 0, api.OK)
	wantWaiting(t, w, "abc")
	wantCounts(t, w, 1, 0)
}
