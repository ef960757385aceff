package umtx_test

import (
	"bytes"
	"math"
	"math/rand"
	"reflect"
	"slices"
	"strings"
	"testing"

	"bowline/api"
	"bowline/glue"
	"bowline/pdu"
	"bowline/umd"
	"bowline/umtx"
)

var (
	widths = []int{5, 10}
	// grants is grants that may not be.
	grants = []int{-1, -2, math.MinInt, api.MaxGrant + 1, math.MaxInt, 1<<32 + 5}
)

// config is one that may be, with numbers of so many bits.
func config(width, room int) api.Config {
	return api.Config{Mode: api.UM, Bits: width, Window: 16, Reorder: 4, QueueBytes: room}
}

// head is how many bytes a head has, as the document tells.
func head(width int) int { return width / 5 }

// of is a sender with a room.
func of(t *testing.T, width, room int) *umtx.Sender {
	t.Helper()
	x, e := umtx.New(config(width, room))
	if x == nil || e != api.OK {
		t.Fatalf("New: %v", e)
	}
	return x
}

// pushed is a sender of texts.
func pushed(t *testing.T, width int, texts ...string) *umtx.Sender {
	t.Helper()
	x := of(t, width, api.MaxBytes)
	for i, text := range texts {
		wantPush(t, x, text, uint64(i+1), api.OK)
	}
	return x
}

// long is a text of so many bytes.
func long(n int) string { return strings.Repeat("0123456789", n/10+1)[:n] }

// times is a text, so many times.
func times(text string, n int) []string { return slices.Repeat([]string{text}, n) }

func wantPush(t *testing.T, x *umtx.Sender, text string, want uint64, e api.Errno) {
	t.Helper()
	if id, f := x.Push([]byte(text)); id != want || f != e {
		t.Fatalf("Push of %d bytes: %d %v, want %d %v", len(text), id, f, want, e)
	}
}

func wantDiscard(t *testing.T, x *umtx.Sender, id uint64, want api.Errno) {
	t.Helper()
	if e := x.Discard(id); e != want {
		t.Fatalf("Discard(%d): %v, want %v", id, e, want)
	}
}

// wantState holds what waits and the next number against what they should be.
func wantState(t *testing.T, x *umtx.Sender, waits, next int) {
	t.Helper()
	if x.Bytes() != waits || x.Next() != next {
		t.Fatalf("%d bytes wait, next %d, want %d, %d", x.Bytes(), x.Next(), waits, next)
	}
}

func wantReset(t *testing.T, x *umtx.Sender, want ...uint64) {
	t.Helper()
	if l := x.Reset(); !slices.Equal(l, want) {
		t.Fatalf("Reset: %v, want %v", l, want)
	}
	wantState(t, x, 0, 0)
}

// wantBytes holds what is built against its bytes.
func wantBytes(t *testing.T, x *umtx.Sender, grant int, want string, done ...uint64) {
	t.Helper()
	if b, l, e := x.Build(grant); string(b) != want || !slices.Equal(l, done) || e != api.OK {
		t.Fatalf("Build(%d): %x %v %v, want %x %v", grant, b, l, e, want, done)
	}
}

// wantBuild holds what is built against a packet of the next number, a field a text.
func wantBuild(t *testing.T, x *umtx.Sender, width, grant, fi int, done []uint64, fields ...string) {
	t.Helper()
	waits, next := x.Bytes(), x.Next()
	b, l, e := x.Build(grant)
	if e != api.OK || len(b) > grant || len(b) > api.MaxPDU || !slices.Equal(l, done) {
		t.Fatalf("Build(%d): %d bytes, done %v, %v, want %v", grant, len(b), l, e, done)
	}
	p, e := umd.Read(b, width)
	if e != api.OK || p.FI != fi || p.SN != next {
		t.Fatalf("Build(%d): FI %d, SN %d, %v, want %d, %d", grant, p.FI, p.SN, e, fi, next)
	}
	if !slices.EqualFunc(p.Fields, fields, func(a []byte, b string) bool { return string(a) == b }) {
		t.Fatalf("Build(%d): fields %q, want %q", grant, p.Fields, fields)
	}
	wantState(t, x, waits-len(strings.Join(fields, "")), (next+1)%(1<<width))
}

func wantNone(t *testing.T, x *umtx.Sender, grant int, want api.Errno) {
	t.Helper()
	waits, next := x.Bytes(), x.Next()
	if b, l, e := x.Build(grant); len(b) != 0 || len(l) != 0 || e != want {
		t.Fatalf("Build(%d): %x %v %v, want %v", grant, b, l, e, want)
	}
	wantState(t, x, waits, next)
}

func wantNoNew(t *testing.T, c api.Config, want api.Errno) {
	t.Helper()
	if x, e := umtx.New(c); x != nil || e != want {
		t.Fatalf("New(%+v): %v %v, want %v", c, x != nil, e, want)
	}
}

// P16.1

func TestNew(t *testing.T) {
	for _, width := range widths {
		for _, room := range []int{1, 2, api.MaxSDU, api.MaxBytes - 1, api.MaxBytes} {
			x := of(t, width, room)
			wantState(t, x, 0, 0)
			wantNone(t, x, api.MaxGrant, api.ErrNone)
			wantReset(t, x)
		}
	}
	c := config(10, 1)
	c.Window, c.Reorder = 512, api.MaxTicks
	for _, c := range []api.Config{c, pdu.Usual(api.UM)} {
		if x, e := umtx.New(c); x == nil || e != api.OK {
			t.Errorf("New(%+v): %v", c, e)
		}
	}
}

func TestNewOfOtherModes(t *testing.T) {
	for _, mode := range []int{api.TM, api.AM} {
		c := pdu.Usual(mode)
		wantNoNew(t, c, api.ErrKind)
		// a config that may not be is Check's to refuse, whichever mode it has
		c.QueueBytes = 0
		wantNoNew(t, c, api.ErrArg)
	}
	for _, mode := range []int{-1, 3, math.MinInt, math.MaxInt, 1<<32 + 1} {
		c := config(5, 5000)
		c.Mode = mode
		wantNoNew(t, c, api.ErrKind)
		wantNoNew(t, api.Config{Mode: mode}, api.ErrKind)
	}
}

func TestNewOfWrongConfigs(t *testing.T) {
	wrong := func(change func(c *api.Config)) {
		t.Helper()
		for _, width := range widths {
			c := config(width, 5000)
			change(&c)
			wantNoNew(t, c, api.ErrArg)
		}
	}
	for _, n := range []int{0, -1, math.MinInt, math.MaxInt, api.MaxBytes + 1} {
		wrong(func(c *api.Config) { c.QueueBytes = n })
		wrong(func(c *api.Config) { c.Window = n })
		wrong(func(c *api.Config) { c.Reorder = n })
		wrong(func(c *api.Config) { c.Bits = n })
	}
	for _, n := range []int{1, 4, 6, 9, 11, 16, 1<<32 + 5} {
		wrong(func(c *api.Config) { c.Bits = n })
	}
	for _, n := range []int{1, -1} {
		wrong(func(c *api.Config) { c.PollRetx = n })
		wrong(func(c *api.Config) { c.Prohibit = n })
		wrong(func(c *api.Config) { c.PollPDU = n })
		wrong(func(c *api.Config) { c.PollByte = n })
		wrong(func(c *api.Config) { c.MaxRetx = n })
	}
	wrong(func(c *api.Config) { c.Window = 1<<c.Bits/2 + 1 })
	wrong(func(c *api.Config) { c.Reorder = api.MaxTicks + 1 })
}

func TestNoSender(t *testing.T) {
	for _, x := range []*umtx.Sender{nil, {}} {
		for range 2 {
			for _, n := range []int{0, 1, api.MaxSDU, api.MaxSDU + 1} {
				wantPush(t, x, long(n), 0, api.ErrNil)
			}
			for _, id := range []uint64{0, 1, math.MaxUint64} {
				wantDiscard(t, x, id, api.ErrNil)
			}
			for _, grant := range append(grants, 0, 1, 2, 3, api.MaxGrant) {
				wantNone(t, x, grant, api.ErrNil)
			}
			wantReset(t, x)
		}
	}
}

// TestCalls: a sender has the document's calls, and none of a queue's beside them.
func TestCalls(t *testing.T) {
	var names []string
	for m := range reflect.TypeFor[*umtx.Sender]().Methods() {
		names = append(names, m.Name)
	}
	if want := []string{"Build", "Bytes", "Discard", "Next", "Push", "Reset"}; !slices.Equal(names, want) {
		t.Errorf("the calls %v, want %v", names, want)
	}
}

func TestPush(t *testing.T) {
	x := of(t, 5, 1003)
	wantPush(t, x, "", 0, api.ErrArg)
	wantPush(t, x, long(api.MaxSDU+1), 0, api.ErrLong)
	wantPush(t, x, long(5000), 0, api.ErrLong)
	wantPush(t, x, long(api.MaxSDU), 1, api.OK)
	wantPush(t, x, "abcd", 0, api.ErrFull)
	wantPush(t, x, "abc", 2, api.OK)
	wantPush(t, x, "d", 0, api.ErrFull)
	wantBuild(t, x, 5, 2, 1, nil, "0")
	wantPush(t, x, "d", 3, api.OK)
	wantState(t, x, 1003, 1)
}

func TestMostTexts(t *testing.T) {
	x := pushed(t, 10, times("a", api.MaxQueue)...)
	wantPush(t, x, "b", 0, api.ErrFull)
	wantBuild(t, x, 10, 3, 0, []uint64{1}, "a")
	wantPush(t, x, "b", api.MaxQueue+1, api.OK)
	wantPush(t, x, "b", 0, api.ErrFull)
}

func TestDiscard(t *testing.T) {
	x := pushed(t, 5, "ab", "cd", "efg", "h")
	wantDiscard(t, x, 0, api.ErrNone)
	wantDiscard(t, x, 5, api.ErrNone)
	wantNone(t, x, 1, api.ErrGrant) // which begins no text
	wantDiscard(t, x, 1, api.OK)
	wantDiscard(t, x, 1, api.ErrNone)
	wantBuild(t, x, 5, 2, 1, nil, "c")
	wantDiscard(t, x, 2, api.ErrState)
	wantDiscard(t, x, 3, api.OK)
	wantState(t, x, 2, 1)
	wantBuild(t, x, 5, 100, 2, []uint64{2, 4}, "d", "h")
	wantDiscard(t, x, 2, api.ErrNone)
	wantNone(t, x, 100, api.ErrNone)
}

func TestReset(t *testing.T) {
	for _, width := range widths {
		x := pushed(t, width, "ab", "cd", "ef")
		wantBuild(t, x, width, head(width)+2, 0, []uint64{1}, "ab")
		wantBuild(t, x, width, head(width)+1, 1, nil, "c")
		wantReset(t, x, 2, 3)
		wantNone(t, x, api.MaxGrant, api.ErrNone)
		wantReset(t, x)
		wantPush(t, x, "gh", 4, api.OK)
		wantBuild(t, x, width, 100, 0, []uint64{4}, "gh") // begun anew, with the number 0
	}
}

// P16.2

func TestExample(t *testing.T) {
	x := pushed(t, 5, "ab")
	wantBytes(t, x, 2, "\x40\x61")
	wantBytes(t, x, 2, "\x81\x62", 1)
	wantNone(t, x, 2, api.ErrNone)
}

func TestBytesOfPackets(t *testing.T) {
	x := pushed(t, 5, "ab", "c", "de")
	wantBytes(t, x, 6, "\x20\x00\x20abc", 1, 2)
	wantBytes(t, x, 2, "\x41d")
	wantBytes(t, x, 100, "\x82e", 3)
	x = pushed(t, 10, "ab", "c", "def")
	wantBytes(t, x, 7, "\x04\x00\x00\x20abc", 1, 2)
	wantBytes(t, x, 3, "\x08\x01d")
	wantBytes(t, x, 3, "\x18\x02e")
	wantBytes(t, x, 3, "\x10\x03f", 3)
}

func TestEachGrant(t *testing.T) {
	for _, width := range widths {
		for room := 1; room <= 9; room++ {
			x := pushed(t, width, "ab", "cde")
			grant := head(width) + room
			switch {
			case room == 1:
				wantBuild(t, x, width, grant, 1, nil, "a")
			case room <= 4:
				wantBuild(t, x, width, grant, 0, []uint64{1}, "ab")
			case room <= 6:
				wantBuild(t, x, width, grant, 1, []uint64{1}, "ab", "cde"[:room-4])
			default:
				wantBuild(t, x, width, grant, 0, []uint64{1, 2}, "ab", "cde")
			}
		}
	}
}

func TestMostFields(t *testing.T) {
	for _, width := range widths {
		x := pushed(t, width, times("a", api.MaxFields+2)...)
		done := make([]uint64, api.MaxFields)
		for i := range done {
			done[i] = uint64(i + 1)
		}
		wantBuild(t, x, width, api.MaxGrant, 0, done, times("a", api.MaxFields)...)
		wantBuild(t, x, width, api.MaxGrant, 0, []uint64{25, 26}, "a", "a")
	}
}

// TestMostBytes: beyond a packet's most bytes a grant lets no more be built.
func TestMostBytes(t *testing.T) {
	for _, width := range widths {
		for _, grant := range []int{api.MaxPDU - 1, api.MaxPDU, api.MaxPDU + 1, api.MaxGrant - 1, api.MaxGrant} {
			x := pushed(t, width, times(long(api.MaxSDU), 5)...)
			all := min(grant, api.MaxPDU) - head(width)
			rest := all - 3*api.MaxSDU - 5 // of three lengths
			fields := append(times(long(api.MaxSDU), 3), long(api.MaxSDU)[:rest])
			wantBuild(t, x, width, grant, 1, []uint64{1, 2, 3}, fields...)
			wantBuild(t, x, width, api.MaxSDU-rest+head(width), 2, []uint64{4}, long(api.MaxSDU)[rest:])
		}
	}
}

func TestWrongGrants(t *testing.T) {
	for _, width := range widths {
		x := of(t, width, 100)
		refused := func(few api.Errno) {
			t.Helper()
			for _, grant := range grants {
				wantNone(t, x, grant, api.ErrArg)
			}
			for grant := range head(width) + 1 {
				wantNone(t, x, grant, few)
			}
		}
		refused(api.ErrNone)
		wantNone(t, x, api.MaxGrant, api.ErrNone)
		wantPush(t, x, "ab", 1, api.OK)
		refused(api.ErrGrant)
		wantBuild(t, x, width, head(width)+1, 1, nil, "a")
		refused(api.ErrGrant)
		wantBuild(t, x, width, head(width)+1, 2, []uint64{1}, "b")
		refused(api.ErrNone)
		wantNone(t, x, api.MaxGrant, api.ErrNone)
	}
}

func TestNumbersGoRound(t *testing.T) {
	for _, width := range widths {
		x := of(t, width, 100)
		for i := range 2<<width + 3 {
			wantState(t, x, 0, i%(1<<width))
			wantNone(t, x, 100, api.ErrNone)
			wantPush(t, x, "ab", uint64(i+1), api.OK)
			wantNone(t, x, head(width), api.ErrGrant)
			wantBuild(t, x, width, 100, 0, []uint64{uint64(i + 1)}, "ab")
		}
	}
}

// P16.3

// TestTextsComeInOrder puts the packets of senders together again, as many as come.
func TestTextsComeInOrder(t *testing.T) {
	for seed := range int64(60) {
		r := rand.New(rand.NewSource(seed))
		width, longest, most := widths[seed%2], 1+r.Intn(400), 3+r.Intn(900)
		x, g := of(t, width, api.MaxBytes), glue.New()
		sent, done, told, packets := map[uint64][]byte{}, []uint64(nil), [][]byte(nil), 0
		for range 200 {
			b := make([]byte, 1+r.Intn(longest))
			r.Read(b)
			if id, e := x.Push(b); e == api.OK {
				sent[id] = b
				if r.Intn(9) == 0 && x.Discard(id) == api.OK {
					delete(sent, id)
				}
			}
			grant := r.Intn(most)
			b, ids, e := x.Build(grant)
			if e != api.OK {
				continue
			}
			p, e := umd.Read(b, width)
			if e != api.OK || len(b) > grant || p.SN != packets%(1<<width) {
				t.Fatalf("Build(%d): %d bytes, SN %d, %v, want %d", grant, len(b), p.SN, e, packets)
			}
			packets++
			done = append(done, ids...)
			l, e := g.Put(p.FI, p.Fields, false)
			if e != api.OK || len(l) != len(ids) {
				t.Fatalf("Put: %d texts of %d, %v", len(l), len(ids), e)
			}
			told = append(told, l...)
		}
		if g.Lost() != 0 || !slices.IsSorted(done) || len(done)+len(x.Reset()) != len(sent) {
			t.Fatalf("%d lost, done %v of %d", g.Lost(), done, len(sent))
		}
		for i, id := range done {
			if !bytes.Equal(told[i], sent[id]) {
				t.Fatalf("the text %d came otherwise", id)
			}
		}
	}
}

// TestAllIsBuilt: grant by grant all that waits is built, to the last byte.
func TestAllIsBuilt(t *testing.T) {
	for _, width := range widths {
		for grant := head(width) + 1; grant < 40; grant++ {
			x := pushed(t, width, "abc", "d", "efghijkl", "mn", long(50))
			var all []byte
			for x.Bytes() > 0 {
				b, _, e := x.Build(grant)
				p, f := umd.Read(b, width)
				if e != api.OK || f != api.OK || len(b) > grant {
					t.Fatalf("Build(%d): %d bytes, %v, read: %v", grant, len(b), e, f)
				}
				all = append(all, bytes.Join(p.Fields, nil)...)
			}
			if want := "abcdefghijklmn" + long(50); string(all) != want {
				t.Fatalf("grant %d: %q, want %q", grant, all, want)
			}
		}
	}
}

// rules 4 and 5 of the document

func TestWhatIsHandedInIsNotKept(t *testing.T) {
	x := of(t, 5, 100)
	b := []byte("abcd")
	if _, e := x.Push(b[:2]); e != api.OK {
		t.Fatalf("Push: %v", e)
	}
	copy(b, "xxxx")
	wantBytes(t, x, 10, "\x00ab", 1)
	if string(b) != "xxxx" {
		t.Errorf("handed in: %q", b)
	}
}

func TestWhatIsHandedOutIsNewMemory(t *testing.T) {
	x := pushed(t, 5, "ab", "cdef", "g")
	b, done, e := x.Build(7)
	if e != api.OK || len(done) != 1 || cap(b) != len(b) || cap(done) != 1 {
		t.Fatalf("Build: room for %d of %d, %d numbers, %v", cap(b), len(b), cap(done), e)
	}
	for i := range b {
		b[i] = 'x'
	}
	done[0] = 9
	wantState(t, x, 3, 1)
	wantBytes(t, x, 10, "\xA1\x00\x20efg", 2, 3)
}

func TestSendersAreTheirOwn(t *testing.T) {
	a, b := pushed(t, 5, "ab"), pushed(t, 10, "cd", "ef")
	wantBuild(t, a, 5, 2, 1, nil, "a")
	wantState(t, b, 4, 0)
	wantBuild(t, b, 10, 4, 0, []uint64{1}, "cd")
	wantBuild(t, a, 5, 2, 2, []uint64{1}, "b")
	wantState(t, b, 2, 1)
	wantReset(t, a)
	wantState(t, b, 2, 1)
	wantReset(t, b, 2)
}
