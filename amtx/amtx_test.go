package amtx_test

import (
	"math"
	"reflect"
	"slices"
	"strings"
	"testing"

	"bowline/amd"
	"bowline/amtx"
	"bowline/api"
	"bowline/pdu"
	"bowline/status"
)

const none = -1 // no number was asked for

var (
	widths = []int{10, 16}
	// grants is grants that may not be.
	grants = []int{-1, -2, math.MinInt, api.MaxGrant + 1, math.MaxInt, 1<<32 + 5}
	// noNumbers is what is a number of no space.
	noNumbers = []int{-1, -2, 1 << 16, 1<<16 + 1, 1 << 32, math.MinInt, math.MaxInt}
)

// config is one that may be, of a sender that asks for no other reason than that it is empty or stalled.
func config(width int) api.Config {
	return api.Config{
		Mode: api.AM, Bits: width, Window: 1 << width / 2,
		Reorder: 4, PollRetx: 8, Prohibit: 3,
		PollPDU: 1000, PollByte: api.MaxBytes, MaxRetx: 32,
		QueueBytes: api.MaxBytes,
	}
}

// head is how many bytes a head has, as the document tells.
func head(width int) int { return 2 + width/16 }

func of(t *testing.T, c api.Config) *amtx.Sender {
	t.Helper()
	x, e := amtx.New(c)
	if x == nil || e != api.OK {
		t.Fatalf("New(%+v): %v", c, e)
	}
	return x
}

// changed is a sender of numbers of 10 bits, of a config with a change.
func changed(t *testing.T, change func(c *api.Config)) *amtx.Sender {
	t.Helper()
	c := config(10)
	change(&c)
	return of(t, c)
}

// long is a text of so many bytes.
func long(n int) string { return strings.Repeat("0123456789", n/10+1)[:n] }

// times is a text, so many times.
func times(text string, n int) []string { return slices.Repeat([]string{text}, n) }

// packet is one without Poll.
func packet(sn, fi int, fields ...string) amd.Packet {
	p := amd.Packet{SN: sn, FI: fi}
	for _, field := range fields {
		p.Fields = append(p.Fields, []byte(field))
	}
	return p
}

// part is a part without Poll.
func part(sn, fi, offset int, last bool, fields ...string) amd.Packet {
	p := packet(sn, fi, fields...)
	p.Part, p.Offset, p.Last = true, offset, last
	return p
}

func polls(p amd.Packet) amd.Packet {
	p.Poll = true
	return p
}

// all is a miss of all of a number.
func all(sn int) status.Miss { return status.Miss{SN: sn} }

// some is a miss of some bytes of a number.
func some(sn, from, to int) status.Miss { return status.Miss{SN: sn, Part: true, From: from, To: to} }

// told is what a sender tells.
type told struct {
	state      [4]int
	waits, due int
	failed     bool
	open       []int
	counts     []int // of the open ones
}

func (a told) is(b told) bool {
	return a.state == b.state && a.waits == b.waits && a.due == b.due && a.failed == b.failed &&
		slices.Equal(a.open, b.open) && slices.Equal(a.counts, b.counts)
}

func toldOf(x *amtx.Sender) told {
	l := told{state: x.State(), open: x.Open(), failed: x.Failed()}
	l.waits, l.due = x.Waits()
	for _, sn := range l.open {
		l.counts = append(l.counts, x.Count(sn))
	}
	return l
}

func wantTold(t *testing.T, x *amtx.Sender, want told) {
	t.Helper()
	if l := toldOf(x); !l.is(want) {
		t.Fatalf("it tells %+v, want %+v", l, want)
	}
}

// fresh is what a sender tells at first.
var fresh = told{state: [4]int{0, 0, none, 0}}

func wantState(t *testing.T, x *amtx.Sender, first, next, asked, left int) {
	t.Helper()
	if s, want := x.State(), [4]int{first, next, asked, left}; s != want {
		t.Fatalf("State: %v, want %v", s, want)
	}
}

func wantOpen(t *testing.T, x *amtx.Sender, want ...int) {
	t.Helper()
	if l := x.Open(); !slices.Equal(l, want) {
		t.Fatalf("Open: %v, want %v", l, want)
	}
}

func wantWaits(t *testing.T, x *amtx.Sender, waits, due int) {
	t.Helper()
	if n, m := x.Waits(); n != waits || m != due {
		t.Fatalf("Waits: %d %d, want %d %d", n, m, waits, due)
	}
}

func wantCount(t *testing.T, x *amtx.Sender, sn, want int) {
	t.Helper()
	if n := x.Count(sn); n != want {
		t.Fatalf("Count(%d): %d, want %d", sn, n, want)
	}
}

func wantFailed(t *testing.T, x *amtx.Sender, want bool) {
	t.Helper()
	if is := x.Failed(); is != want {
		t.Fatalf("Failed: %v", is)
	}
}

// wantPushed pushes texts, and wants that none is refused.
func wantPushed(t *testing.T, x *amtx.Sender, texts ...string) {
	t.Helper()
	for _, text := range texts {
		if id, e := x.Push([]byte(text)); id == 0 || e != api.OK {
			t.Fatalf("Push of %d bytes: %d %v", len(text), id, e)
		}
	}
}

func wantPush(t *testing.T, x *amtx.Sender, text string, want uint64, e api.Errno) {
	t.Helper()
	if id, f := x.Push([]byte(text)); id != want || f != e {
		t.Fatalf("Push of %d bytes: %d %v, want %d %v", len(text), id, f, want, e)
	}
}

func wantDiscard(t *testing.T, x *amtx.Sender, id uint64, want api.Errno) {
	t.Helper()
	if e := x.Discard(id); e != want {
		t.Fatalf("Discard(%d): %v, want %v", id, e, want)
	}
}

// wantBuild wants some packets, one behind the other, each of a grant.
func wantBuild(t *testing.T, x *amtx.Sender, grant int, want ...amd.Packet) {
	t.Helper()
	for _, w := range want {
		if p, e := x.Build(grant); !amd.Same(p, w) || e != api.OK {
			t.Fatalf("Build(%d): %+v %v, want %+v", grant, p, e, w)
		}
	}
}

func wantNone(t *testing.T, x *amtx.Sender, grant int, want api.Errno) {
	t.Helper()
	before := toldOf(x)
	if p, e := x.Build(grant); !amd.Same(p, amd.Packet{}) || p.Fields != nil || e != want {
		t.Fatalf("Build(%d): %+v %v, want %v", grant, p, e, want)
	}
	wantTold(t, x, before)
}

func wantStatus(t *testing.T, x *amtx.Sender, ack int, misses ...status.Miss) {
	t.Helper()
	s := status.Status{Ack: ack, Misses: misses}
	if e := x.Status(s); e != api.OK {
		t.Fatalf("Status(%v): %v", s, e)
	}
}

func wantNoStatus(t *testing.T, x *amtx.Sender, want api.Errno, ack int, misses ...status.Miss) {
	t.Helper()
	before := toldOf(x)
	s := status.Status{Ack: ack, Misses: misses}
	if e := x.Status(s); e != want {
		t.Fatalf("Status(%v): %v, want %v", s, e, want)
	}
	wantTold(t, x, before)
}

// wantTicks wants so many ticks, with which the timer does not end.
func wantTicks(t *testing.T, x *amtx.Sender, many int) {
	t.Helper()
	for i := range many {
		if x.Tick() {
			t.Fatalf("the tick %d ends the timer: %v", i+1, x.State())
		}
	}
}

// wantEnd wants that the timer ends with the last one of so many ticks.
func wantEnd(t *testing.T, x *amtx.Sender, many int) {
	t.Helper()
	wantTicks(t, x, many-1)
	if !x.Tick() {
		t.Fatalf("the tick %d does not end the timer: %v", many, x.State())
	}
}

// wantOneByOne pushes texts, and wants each in a packet of its own, of which the last one polls.
func wantOneByOne(t *testing.T, x *amtx.Sender, width, first int, texts ...string) {
	t.Helper()
	wantPushed(t, x, texts...)
	for i, text := range texts {
		p := packet((first+i)%(1<<width), 0, text)
		p.Poll = i == len(texts)-1
		wantBuild(t, x, head(width)+len(text), p)
	}
}

// at is a sender that has nothing open, and whose next number is n.
func at(t *testing.T, c api.Config, n int) *amtx.Sender {
	t.Helper()
	x := of(t, c)
	for sn := range n {
		wantOneByOne(t, x, c.Bits, sn, "a")
		wantStatus(t, x, (sn+1)%(1<<c.Bits))
	}
	wantState(t, x, n, n, none, 0)
	return x
}

func wantReset(t *testing.T, x *amtx.Sender, want ...uint64) {
	t.Helper()
	if l := x.Reset(); !slices.Equal(l, want) {
		t.Fatalf("Reset: %v, want %v", l, want)
	}
	wantTold(t, x, fresh)
}

func wantNoNew(t *testing.T, c api.Config, want api.Errno) {
	t.Helper()
	if x, e := amtx.New(c); x != nil || e != want {
		t.Fatalf("New(%+v): %v %v, want %v", c, x != nil, e, want)
	}
}

// P22.1

func TestNew(t *testing.T) {
	wantNew := func(change func(c *api.Config)) {
		t.Helper()
		for _, width := range widths {
			c := config(width)
			change(&c)
			x := of(t, c)
			wantTold(t, x, fresh)
			wantNone(t, x, api.MaxGrant, api.ErrNone)
			wantReset(t, x)
		}
	}
	wantNew(func(c *api.Config) {})
	wantNew(func(c *api.Config) { *c = pdu.Usual(api.AM) })
	for _, n := range []int{1, 2, api.MaxTicks - 1, api.MaxTicks} {
		wantNew(func(c *api.Config) { c.Reorder = n })
		wantNew(func(c *api.Config) { c.PollRetx = n })
		wantNew(func(c *api.Config) { c.Prohibit = n })
		wantNew(func(c *api.Config) { c.PollPDU = min(n, 1000) })
	}
	wantNew(func(c *api.Config) { c.Prohibit = 0 })
	for _, n := range []int{1, 500, api.MaxBytes} {
		wantNew(func(c *api.Config) { c.PollByte = n })
		wantNew(func(c *api.Config) { c.QueueBytes = n })
		wantNew(func(c *api.Config) { c.Window = min(n, 512) })
		wantNew(func(c *api.Config) { c.MaxRetx = min(n, 32) })
	}
}

func TestNewOfOtherModes(t *testing.T) {
	for _, mode := range []int{api.TM, api.UM} {
		c := pdu.Usual(mode)
		wantNoNew(t, c, api.ErrKind)
		// a config that may not be is Check's to refuse, whichever mode it has
		c.QueueBytes = 0
		wantNoNew(t, c, api.ErrArg)
	}
	for _, mode := range []int{-1, 3, math.MinInt, math.MaxInt, 1<<32 + 2} {
		c := config(10)
		c.Mode = mode
		wantNoNew(t, c, api.ErrKind)
		wantNoNew(t, api.Config{Mode: mode}, api.ErrKind)
	}
}

func TestNewOfWrongConfigs(t *testing.T) {
	wrong := func(change func(c *api.Config)) {
		t.Helper()
		for _, width := range widths {
			c := config(width)
			change(&c)
			wantNoNew(t, c, api.ErrArg)
		}
	}
	for _, n := range []int{-1, math.MinInt, math.MaxInt, api.MaxBytes + 1, 1 << 32} {
		wrong(func(c *api.Config) { c.Bits = n })
		wrong(func(c *api.Config) { c.Reorder = n })
		wrong(func(c *api.Config) { c.PollRetx = n })
		wrong(func(c *api.Config) { c.Prohibit = n })
		wrong(func(c *api.Config) { c.PollPDU = n })
		wrong(func(c *api.Config) { c.PollByte = n })
		wrong(func(c *api.Config) { c.MaxRetx = n })
		wrong(func(c *api.Config) { c.QueueBytes = n })
	}
	for _, n := range []int{0, -1, math.MinInt, math.MaxInt, 1<<32 + 1} {
		wrong(func(c *api.Config) { c.Window = n })
	}
	wrong(func(c *api.Config) { c.Window = 1<<c.Bits/2 + 1 })
	wrong(func(c *api.Config) { c.Reorder = 0 })
	wrong(func(c *api.Config) { c.Reorder = api.MaxTicks + 1 })
	wrong(func(c *api.Config) { c.PollRetx = 0 })
	wrong(func(c *api.Config) { c.PollRetx = api.MaxTicks + 1 })
	wrong(func(c *api.Config) { c.Prohibit = api.MaxTicks + 1 })
	wrong(func(c *api.Config) { c.PollPDU = 0 })
	wrong(func(c *api.Config) { c.PollPDU = 1001 })
	wrong(func(c *api.Config) { c.PollByte = 0 })
	wrong(func(c *api.Config) { c.MaxRetx = 0 })
	wrong(func(c *api.Config) { c.MaxRetx = 33 })
	wrong(func(c *api.Config) { c.QueueBytes = 0 })
	for _, n := range []int{0, 1, 5, 9, 11, 15, 17, 1<<32 + 10} {
		wrong(func(c *api.Config) { c.Bits = n })
	}
}

func TestNoSender(t *testing.T) {
	for _, x := range []*amtx.Sender{nil, {}} {
		for range 2 {
			for _, n := range []int{0, 1, api.MaxSDU, api.MaxSDU + 1} {
				wantPush(t, x, long(n), 0, api.ErrNil)
			}
			for _, id := range []uint64{0, 1, math.MaxUint64} {
				wantDiscard(t, x, id, api.ErrNil)
			}
			for _, grant := range append(grants, 0, 1, 5, api.MaxGrant) {
				wantNone(t, x, grant, api.ErrNil)
			}
			for _, ack := range append(noNumbers, 0, 1) {
				wantNoStatus(t, x, api.ErrNil, ack)
				wantNoStatus(t, x, api.ErrNil, 0, all(ack))
				wantCount(t, x, ack, 0)
			}
			wantTicks(t, x, 3)
			if l := x.Reset(); len(l) != 0 {
				t.Errorf("Reset: %v", l)
			}
			wantTold(t, x, told{})
		}
	}
}

// TestCalls: a sender has the document's calls, and none of a queue's beside them.
func TestCalls(t *testing.T) {
	var names []string
	for m := range reflect.TypeFor[*amtx.Sender]().Methods() {
		names = append(names, m.Name)
	}
	want := []string{"Build", "Count", "Discard", "Failed", "Open", "Push", "Reset", "State", "Status", "Tick", "Waits"}
	if !slices.Equal(names, want) {
		t.Errorf("the calls %v, want %v", names, want)
	}
}

func TestPush(t *testing.T) {
	x := changed(t, func(c *api.Config) { c.QueueBytes = 1003 })
	wantPush(t, x, "", 0, api.ErrArg)
	wantPush(t, x, long(api.MaxSDU+1), 0, api.ErrLong)
	wantPush(t, x, long(5000), 0, api.ErrLong)
	wantPush(t, x, long(api.MaxSDU), 1, api.OK)
	wantPush(t, x, "abcd", 0, api.ErrFull)
	wantPush(t, x, "abc", 2, api.OK)
	wantPush(t, x, "d", 0, api.ErrFull)
	wantWaits(t, x, 1003, 0)
	wantBuild(t, x, 3, packet(0, 1, "0"))
	wantPush(t, x, "d", 3, api.OK)
	wantWaits(t, x, 1003, 0)
}

// TestDueNeedsNoRoom: what is due waits in the store, so that it takes no room of the queue.
func TestDueNeedsNoRoom(t *testing.T) {
	x := changed(t, func(c *api.Config) { c.QueueBytes = 5 })
	wantOneByOne(t, x, 10, 0, "abcde")
	wantOneByOne(t, x, 10, 1, "f")
	wantStatus(t, x, 2, all(0), all(1))
	wantWaits(t, x, 0, 6)
	wantPush(t, x, "ghijk", 3, api.OK)
	wantWaits(t, x, 5, 6)
	wantPush(t, x, "l", 0, api.ErrFull)
}

func TestMostTexts(t *testing.T) {
	x := of(t, config(10))
	wantPushed(t, x, times("a", api.MaxQueue)...)
	wantPush(t, x, "b", 0, api.ErrFull)
	wantBuild(t, x, 3, packet(0, 0, "a"))
	wantPush(t, x, "b", api.MaxQueue+1, api.OK)
	wantPush(t, x, "b", 0, api.ErrFull)
}

func TestDiscard(t *testing.T) {
	x := of(t, config(10))
	wantPushed(t, x, "ab", "cd", "efg", "h")
	wantDiscard(t, x, 0, api.ErrNone)
	wantDiscard(t, x, 5, api.ErrNone)
	wantDiscard(t, x, 1, api.OK)
	wantDiscard(t, x, 1, api.ErrNone)
	wantBuild(t, x, 3, packet(0, 1, "c"))
	wantDiscard(t, x, 2, api.ErrState)
	wantDiscard(t, x, 3, api.OK)
	wantWaits(t, x, 2, 0)
	wantBuild(t, x, 100, polls(packet(1, 2, "d", "h")))
	wantDiscard(t, x, 2, api.ErrNone)
	wantDiscard(t, x, 4, api.ErrNone)
	wantNone(t, x, 100, api.ErrNone)
}

// TestReset: behind it a sender is as a new one, but that its texts' numbers go on.
func TestReset(t *testing.T) {
	for _, width := range widths {
		c := config(width)
		c.MaxRetx, c.PollPDU, c.PollByte, c.Window, c.PollRetx = 1, 3, 5, 4, 2
		x := of(t, c)
		wantOneByOne(t, x, width, 0, "ab", "cd")
		wantPushed(t, x, "ef", "gh")
		wantEnd(t, x, 2) // it is told to ask
		wantStatus(t, x, 2, all(0))
		wantFailed(t, x, true)
		wantBuild(t, x, head(width)+2, polls(packet(0, 0, "ab")))
		wantBuild(t, x, head(width)+2, packet(2, 0, "ef"))
		wantEnd(t, x, 2) // told again, with a packet of two bytes since
		wantState(t, x, 0, 3, 1, 0)
		wantReset(t, x, 4)
		wantCount(t, x, 0, 0)
		wantNone(t, x, api.MaxGrant, api.ErrNone)
		wantTicks(t, x, 5)
		wantReset(t, x)
		wantPush(t, x, "ijk", 5, api.OK)
		wantPush(t, x, "l", 6, api.OK)
		wantPush(t, x, "m", 7, api.OK)
		wantNoStatus(t, x, api.ErrWindow, 1)
		// of nothing it was told, and nothing it counted, there is any left
		wantBuild(t, x, head(width)+3, packet(0, 0, "ijk"))
		wantBuild(t, x, head(width)+1, packet(1, 0, "l"))
		wantState(t, x, 0, 2, none, 0)
		wantBuild(t, x, head(width)+1, polls(packet(2, 0, "m")))
		wantState(t, x, 0, 3, 2, 2)
	}
}

// P22.2

func TestExample(t *testing.T) {
	x := of(t, pdu.Usual(api.AM))
	wantPush(t, x, "ab", 1, api.OK)
	p, e := x.Build(4)
	b, f := amd.Write(p, 10)
	if string(b) != "\xA0\x00ab" || e != api.OK || f != api.OK { // a packet, and polls
		t.Fatalf("Build: %x %v %v", b, e, f)
	}
	wantTold(t, x, told{state: [4]int{0, 1, 0, 8}, open: []int{0}, counts: []int{0}})
	wantNone(t, x, 4, api.ErrNone)
}

func TestEachGrant(t *testing.T) {
	for _, width := range widths {
		for room := 1; room <= 9; room++ {
			x := of(t, config(width))
			wantPushed(t, x, "ab", "cde")
			grant := head(width) + room
			switch {
			case room == 1:
				wantBuild(t, x, grant, packet(0, 1, "a"))
				wantWaits(t, x, 4, 0)
			case room <= 4:
				wantBuild(t, x, grant, packet(0, 0, "ab"))
				wantWaits(t, x, 3, 0)
			case room <= 6:
				wantBuild(t, x, grant, packet(0, 1, "ab", "cde"[:room-4]))
				wantWaits(t, x, 7-room, 0)
			default:
				wantBuild(t, x, grant, polls(packet(0, 0, "ab", "cde")))
				wantWaits(t, x, 0, 0)
			}
		}
	}
}

// TestLengths: two lengths have three bytes with numbers of 10 bits, four with numbers of 16.
func TestLengths(t *testing.T) {
	for _, width := range widths {
		grant := head(width) + 6
		x := of(t, config(width))
		wantPushed(t, x, "a", "b", "c", "d")
		if width == 10 {
			wantBuild(t, x, grant, packet(0, 0, "a", "b", "c"))
			wantBuild(t, x, grant, polls(packet(1, 0, "d")))
			continue
		}
		wantBuild(t, x, grant, packet(0, 0, "a", "b"))
		wantBuild(t, x, grant, polls(packet(1, 0, "c", "d")))
	}
}

func TestMostFields(t *testing.T) {
	for _, width := range widths {
		x := of(t, config(width))
		wantPushed(t, x, times("a", api.MaxFields+2)...)
		wantBuild(t, x, api.MaxGrant, packet(0, 0, times("a", api.MaxFields)...), polls(packet(1, 0, "a", "a")))
	}
}

// TestMostBytes: beyond a packet's most bytes a grant lets no more be built.
func TestMostBytes(t *testing.T) {
	for _, width := range widths {
		for _, grant := range []int{api.MaxPDU - 1, api.MaxPDU, api.MaxPDU + 1, api.MaxGrant - 1, api.MaxGrant} {
			x := of(t, config(width))
			wantPushed(t, x, times(long(api.MaxSDU), 5)...)
			rest := min(grant, api.MaxPDU) - head(width) - 3*api.MaxSDU - 5 - width/16 // of three lengths
			p := packet(0, 1, append(times(long(api.MaxSDU), 3), long(api.MaxSDU)[:rest])...)
			wantBuild(t, x, grant, p)
			if size := amd.Size(p, width); size != min(grant, api.MaxPDU) {
				t.Fatalf("Build(%d): %d bytes", grant, size)
			}
			wantWaits(t, x, 2*api.MaxSDU-rest, 0)
		}
	}
}

func TestWrongGrants(t *testing.T) {
	for _, width := range widths {
		c := config(width)
		c.Window = 2
		x := of(t, c)
		refused := func(few, any api.Errno) {
			t.Helper()
			for _, grant := range grants {
				wantNone(t, x, grant, api.ErrArg)
			}
			for grant := range head(width) + 1 {
				wantNone(t, x, grant, few)
			}
			if any != api.OK {
				wantNone(t, x, head(width)+1, any)
				wantNone(t, x, api.MaxGrant, any)
			}
		}
		refused(api.ErrNone, api.ErrNone)
		wantPushed(t, x, "ab", "cd")
		refused(api.ErrGrant, api.OK)
		wantBuild(t, x, head(width)+1, packet(0, 1, "a"))
		refused(api.ErrGrant, api.OK)
		wantBuild(t, x, head(width)+1, polls(packet(1, 2, "b")))
		refused(api.ErrWindow, api.ErrWindow) // stalled, ahead of too small a grant
		wantDiscard(t, x, 2, api.OK)
		refused(api.ErrNone, api.ErrNone) // stalled, but nothing waits
		wantPushed(t, x, "ef")
		wantStatus(t, x, 1)
		refused(api.ErrGrant, api.OK)
		wantStatus(t, x, 2, all(1))
		refused(api.ErrGrant, api.OK) // of what is due
		wantBuild(t, x, head(width)+1, packet(1, 2, "b"))
		refused(api.ErrGrant, api.OK)
		wantBuild(t, x, head(width)+2, polls(packet(2, 0, "ef")))
		refused(api.ErrNone, api.ErrNone)
	}
}

func TestNumbersGoRound(t *testing.T) {
	x := of(t, config(10))
	for i := range 2500 {
		sn := i % 1024
		wantOneByOne(t, x, 10, sn, "ab")
		wantTold(t, x, told{state: [4]int{sn, (sn + 1) % 1024, sn, 8}, open: []int{sn}, counts: []int{0}})
		wantStatus(t, x, (sn+1)%1024)
		wantState(t, x, (sn+1)%1024, (sn+1)%1024, none, 0)
	}
}

// TestDueGoesAhead: what is due goes ahead of what is new, and what is new waits where it can't go.
func TestDueGoesAhead(t *testing.T) {
	x := of(t, config(10))
	wantOneByOne(t, x, 10, 0, "ab", "cd", "ef")
	wantPushed(t, x, "gh")
	wantStatus(t, x, 3, all(1))
	wantWaits(t, x, 2, 2)
	for grant := range 4 {
		wantNone(t, x, grant, api.ErrGrant) // 3 would do for what is new
	}
	wantBuild(t, x, 4, packet(1, 0, "cd"))
	wantWaits(t, x, 2, 0)
	wantState(t, x, 1, 3, none, 0)
	wantBuild(t, x, 4, polls(packet(3, 0, "gh")))
	wantState(t, x, 1, 4, 3, 8)
	wantOpen(t, x, 1, 3)
}

// TestLeastFar: what is due goes by how far its number is from A, whichever is the smallest, or was missed first.
func TestLeastFar(t *testing.T) {
	x := at(t, config(10), 1022)
	wantOneByOne(t, x, 10, 1022, "ab", "cd", "ef", "gh")
	wantStatus(t, x, 2, all(1), all(0), all(1023))
	wantOpen(t, x, 1023, 0, 1)
	wantWaits(t, x, 0, 6)
	wantBuild(t, x, 100, packet(1023, 0, "cd"), packet(0, 0, "ef"), polls(packet(1, 0, "gh")))
	wantState(t, x, 1023, 2, 1, 8)
}

// TestDueIsCut: parts of what is due, from its first span on, as long as they fit.
func TestDueIsCut(t *testing.T) {
	for _, width := range widths {
		x := of(t, config(width))
		grant := head(width) + 2 // a part's head
		wantPushed(t, x, "0123", "456789")
		wantBuild(t, x, 100, polls(packet(0, 0, "0123", "456789")))
		wantStatus(t, x, 1, all(0))
		wantNone(t, x, grant, api.ErrGrant)
		wantBuild(t, x, grant+1, part(0, 1, 0, false, "0"), part(0, 3, 1, false, "1"))
		wantBuild(t, x, grant+7, part(0, 3, 2, false, "23", "456")) // a length has two bytes
		wantWaits(t, x, 0, 3)
		wantBuild(t, x, grant+3, polls(part(0, 2, 7, true, "789")))
		wantWaits(t, x, 0, 0)
		wantStatus(t, x, 1, all(0))
		wantBuild(t, x, head(width)+11, part(0, 1, 0, false, "0123", "456"))
		wantBuild(t, x, api.MaxGrant, polls(part(0, 2, 7, true, "789")))
		wantStatus(t, x, 1, all(0))
		wantBuild(t, x, head(width)+12, polls(packet(0, 0, "0123", "456789"))) // all of it fits
		wantCount(t, x, 0, 3)
	}
}

// TestSpanBySpan: each span goes by itself, whatever the grant is.
func TestSpanBySpan(t *testing.T) {
	x := of(t, config(10))
	wantOneByOne(t, x, 10, 0, "0123456789")
	wantStatus(t, x, 1, some(0, 6, 8), some(0, 2, 4), some(0, 9, 0))
	wantCount(t, x, 0, 3)
	wantWaits(t, x, 0, 5)
	wantBuild(t, x, 5, part(0, 3, 2, false, "2"))
	wantBuild(t, x, 100, part(0, 3, 3, false, "3"), part(0, 3, 6, false, "67"))
	wantWaits(t, x, 0, 1)
	wantBuild(t, x, 100, polls(part(0, 2, 9, true, "9")))
	wantNone(t, x, 100, api.ErrNone)
	// spans that touch are one
	wantStatus(t, x, 1, some(0, 4, 6), some(0, 2, 4))
	wantBuild(t, x, 100, polls(part(0, 3, 2, false, "2345")))
}

func TestPollPDU(t *testing.T) {
	x := changed(t, func(c *api.Config) { c.PollPDU = 3 })
	wantPushed(t, x, long(9))
	wantBuild(t, x, 3, packet(0, 1, "0"), packet(1, 3, "1"), polls(packet(2, 3, "2")))
	wantState(t, x, 0, 3, 2, 8)
	wantBuild(t, x, 3, packet(3, 3, "3"), packet(4, 3, "4"))
	wantState(t, x, 0, 5, 2, 8)
	// what goes again is not counted
	wantStatus(t, x, 2, all(0), all(1))
	wantBuild(t, x, 3, packet(0, 1, "0"), packet(1, 3, "1"))
	wantBuild(t, x, 3, polls(packet(5, 3, "5")))
	wantState(t, x, 0, 6, 5, 8)
	wantBuild(t, x, 3, packet(6, 3, "6"))
	wantBuild(t, x, 4, polls(packet(7, 2, "78"))) // as it is empty
	wantState(t, x, 0, 8, 7, 8)
	wantPushed(t, x, long(9))
	wantBuild(t, x, 3, packet(8, 1, "0"), packet(9, 3, "1"), polls(packet(10, 3, "2")))
}

// TestPollByte: of packets their data is counted, not what stands ahead of it.
func TestPollByte(t *testing.T) {
	x := changed(t, func(c *api.Config) { c.PollByte = 6 })
	wantPushed(t, x, "ab", "c", "de", "f", long(12))
	wantBuild(t, x, 4, packet(0, 0, "ab"))
	wantBuild(t, x, 3, packet(1, 0, "c"))
	wantBuild(t, x, 4, packet(2, 0, "de"))
	wantBuild(t, x, 3, polls(packet(3, 0, "f")))
	wantBuild(t, x, 9, polls(packet(4, 1, long(7))))
	wantBuild(t, x, 6, packet(5, 3, "7890"))
	wantStatus(t, x, 1, all(0))
	wantBuild(t, x, 4, packet(0, 0, "ab")) // what goes again is not counted
	wantPushed(t, x, "cd")
	wantBuild(t, x, 3, packet(6, 2, "1"))
	wantBuild(t, x, 3, polls(packet(7, 1, "c")))
}

// TestPollsAsEmpty: it is not empty as long as something waits, or is due.
func TestPollsAsEmpty(t *testing.T) {
	x := of(t, config(10))
	wantPushed(t, x, "ab", "cd")
	wantBuild(t, x, 4, packet(0, 0, "ab"))
	wantState(t, x, 0, 1, none, 0)
	wantBuild(t, x, 4, polls(packet(1, 0, "cd")))
	wantState(t, x, 0, 2, 1, 8)
	wantStatus(t, x, 2, all(0), some(1, 1, 0))
	wantPushed(t, x, "ef")
	wantBuild(t, x, 4, packet(0, 0, "ab"))
	wantBuild(t, x, 5, part(1, 2, 1, true, "d"))
	wantDiscard(t, x, 3, api.OK) // it is empty, but nothing goes
	wantState(t, x, 0, 2, none, 0)
	wantStatus(t, x, 2, all(0), some(1, 1, 0))
	wantBuild(t, x, 4, packet(0, 0, "ab"))
	wantBuild(t, x, 5, polls(part(1, 2, 1, true, "d")))
	wantState(t, x, 0, 2, 1, 8)
}

func TestPollsAsStalled(t *testing.T) {
	x := changed(t, func(c *api.Config) { c.Window = 2 })
	wantPushed(t, x, "0123", "cd", "ef", "gh")
	wantBuild(t, x, 6, packet(0, 0, "0123"), polls(packet(1, 0, "cd")))
	wantState(t, x, 0, 2, 1, 8)
	wantNone(t, x, 4, api.ErrWindow)
	wantStatus(t, x, 2, all(0))
	wantBuild(t, x, 5, polls(part(0, 1, 0, false, "0")), polls(part(0, 3, 1, false, "1")))
	wantBuild(t, x, 6, polls(part(0, 2, 2, true, "23")))
	wantState(t, x, 0, 2, 1, 8)
	wantNone(t, x, 4, api.ErrWindow)
	wantStatus(t, x, 1)
	wantBuild(t, x, 4, packet(2, 0, "ef"), polls(packet(3, 0, "gh")))
	wantNone(t, x, 4, api.ErrNone) // stalled, too
}

// TestWindowOfOne: each packet polls.
func TestWindowOfOne(t *testing.T) {
	for _, width := range widths {
		c := config(width)
		c.Window = 1
		x := of(t, c)
		wantPushed(t, x, "abcdef")
		for i, fi := range []int{1, 3, 3, 3, 3, 2} {
			wantBuild(t, x, head(width)+1, polls(packet(i, fi, "abcdef"[i:i+1])))
			wantState(t, x, i, i+1, i, 8)
			wantStatus(t, x, i+1)
			wantState(t, x, i+1, i+1, none, 0)
		}
	}
}

// TestAskedAnew: the timer starts again with each packet that polls, and the number asked for is the last one that was opened.
func TestAskedAnew(t *testing.T) {
	x := of(t, config(10))
	wantOneByOne(t, x, 10, 0, "ab")
	wantTicks(t, x, 5)
	wantState(t, x, 0, 1, 0, 3)
	wantOneByOne(t, x, 10, 1, "cd", "ef")
	wantState(t, x, 0, 3, 2, 8)
	wantTicks(t, x, 7)
	wantStatus(t, x, 1, all(0))
	wantState(t, x, 0, 3, 2, 1)
	wantBuild(t, x, 4, polls(packet(0, 0, "ab")))
	wantState(t, x, 0, 3, 2, 8)
}

// P22.3

func TestStatusesThatMayNotBe(t *testing.T) {
	for _, width := range widths {
		x := of(t, config(width))
		wantOneByOne(t, x, width, 0, "ab", "cd")
		end := 1<<(15+width/16) - 1 // the greatest To
		for _, n := range append(noNumbers, 1<<width) {
			wantNoStatus(t, x, api.ErrForm, n)
			wantNoStatus(t, x, api.ErrForm, 2, all(n))
			wantNoStatus(t, x, api.ErrForm, 2, all(0), some(n, 0, 1))
		}
		for _, m := range []status.Miss{
			{SN: 0, From: 1}, {SN: 0, To: 1}, {SN: 0, From: -1}, {SN: 0, To: -1},
			some(0, -1, 0), some(0, -1, 1), some(0, 0, -1), some(0, 1, 1), some(0, 2, 1),
			some(0, 0, end+1), some(0, end+1, 0), some(0, math.MinInt, math.MaxInt),
		} {
			wantNoStatus(t, x, api.ErrForm, 2, m)
			wantNoStatus(t, x, api.ErrForm, 2, all(1), m)
			wantNoStatus(t, x, api.ErrForm, 9, m) // ahead of ErrWindow
		}
		wantNoStatus(t, x, api.ErrForm, 2, slices.Repeat([]status.Miss{all(0)}, api.MaxNacks+1)...)
		wantStatus(t, x, 2, slices.Repeat([]status.Miss{all(0)}, api.MaxNacks)...)
		wantStatus(t, x, 2, some(0, 0, end), some(0, end, 0))
		wantOpen(t, x, 0)
	}
}

func TestStatusesBehindTheWindow(t *testing.T) {
	for _, width := range widths {
		x := of(t, config(width))
		wantNoStatus(t, x, api.ErrWindow, 1)
		wantNoStatus(t, x, api.ErrWindow, 1<<width-1, all(0))
		wantStatus(t, x, 0)
		wantOneByOne(t, x, width, 0, "ab", "cd", "ef")
		refused := func(from int) {
			t.Helper()
			for _, ack := range []int{4, 5, 512, 1<<width/2 + 1, 1<<width - 1} {
				wantNoStatus(t, x, api.ErrWindow, ack)
				wantNoStatus(t, x, api.ErrWindow, ack, all(0), all(1), all(2))
			}
			for ack := range from {
				wantNoStatus(t, x, api.ErrWindow, ack)
			}
		}
		refused(0)
		wantStatus(t, x, 0)
		wantOpen(t, x, 0, 1, 2)
		wantStatus(t, x, 2)
		wantOpen(t, x, 2)
		refused(2)
		wantStatus(t, x, 3)
		wantOpen(t, x)
		refused(3)
		wantStatus(t, x, 3)
	}
}

// TestAcknowledged: all ahead of Ack but what is missed is acknowledged and dropped.
func TestAcknowledged(t *testing.T) {
	x := of(t, config(10))
	texts := []string{"ab", "cd", "ef", "gh", "ij", "kl"}
	wantOneByOne(t, x, 10, 0, texts...)
	wantStatus(t, x, 0)
	wantOpen(t, x, 0, 1, 2, 3, 4, 5)
	wantStatus(t, x, 4, all(1), some(3, 1, 2))
	wantOpen(t, x, 1, 3, 4, 5)
	wantTold(t, x, told{state: [4]int{1, 6, 5, 8}, due: 3, open: []int{1, 3, 4, 5}, counts: []int{1, 1, 0, 0}})
	wantCount(t, x, 0, 0)
	wantCount(t, x, 2, 0)
	for _, sn := range append(noNumbers, 6, 1023, 1024, 1025) {
		wantCount(t, x, sn, 0)
	}
	// what is acknowledged is not due any more
	wantStatus(t, x, 2)
	wantTold(t, x, told{state: [4]int{3, 6, 5, 8}, due: 1, open: []int{3, 4, 5}, counts: []int{1, 0, 0}})
	wantStatus(t, x, 6, all(5))
	wantTold(t, x, told{state: [4]int{5, 6, none, 0}, due: 2, open: []int{5}, counts: []int{1}})
	wantBuild(t, x, 100, polls(packet(5, 0, "kl")))
	wantStatus(t, x, 6)
	wantTold(t, x, told{state: [4]int{6, 6, none, 0}})
	wantNone(t, x, 100, api.ErrNone)
}

// TestMissesThatAreNotHeard: of numbers that are not open, or not ahead of Ack.
func TestMissesThatAreNotHeard(t *testing.T) {
	x := of(t, config(10))
	wantOneByOne(t, x, 10, 0, "ab", "cd", "ef", "gh", "ij")
	wantStatus(t, x, 3, all(0), all(2))
	wantBuild(t, x, 4, packet(0, 0, "ab"), polls(packet(2, 0, "ef")))
	want := told{state: [4]int{0, 5, 4, 8}, open: []int{0, 2, 3, 4}, counts: []int{1, 1, 0, 0}}
	wantStatus(t, x, 0, all(0), all(2), all(4))
	wantTold(t, x, want)
	// 1 came, 3 is Ack, 4 and 5 are behind it, and 1023 was never
	wantStatus(t, x, 3, all(1), all(3), all(4), all(5), all(1023), all(0), all(2))
	want.due, want.counts = 4, []int{2, 2, 0, 0}
	wantTold(t, x, want)
	wantStatus(t, x, 3, all(1), all(3))
	wantTold(t, x, told{state: [4]int{3, 5, 4, 8}, open: []int{3, 4}, counts: []int{0, 0}})
}

// TestMissesThatHaveNoByte: a number is not acknowledged by a miss of which it has no byte.
func TestMissesThatHaveNoByte(t *testing.T) {
	x := changed(t, func(c *api.Config) { c.MaxRetx = 1 })
	wantOneByOne(t, x, 10, 0, "ab", "cd")
	wantStatus(t, x, 2, some(0, 2, 0), some(0, 2, 9), some(0, 32767, 0))
	wantTold(t, x, told{state: [4]int{0, 2, none, 0}, open: []int{0}, counts: []int{0}})
	wantStatus(t, x, 2, some(0, 1, 32767)) // to its end
	wantTold(t, x, told{state: [4]int{0, 2, none, 0}, due: 1, failed: true, open: []int{0}, counts: []int{1}})
}

// TestMissesInOrder: one behind the other, each as far as it is not due.
func TestMissesInOrder(t *testing.T) {
	count := func(misses ...status.Miss) (int, int) {
		t.Helper()
		x := of(t, config(10))
		wantOneByOne(t, x, 10, 0, "0123456789")
		wantStatus(t, x, 1, misses...)
		_, due := x.Waits()
		return x.Count(0), due
	}
	for _, c := range []struct {
		count, due int
		misses     []status.Miss
	}{
		{1, 10, []status.Miss{all(0)}},
		{1, 10, []status.Miss{all(0), all(0), some(0, 3, 0)}},
		{2, 10, []status.Miss{some(0, 3, 0), all(0)}},
		{3, 10, []status.Miss{some(0, 3, 5), some(0, 0, 4), all(0), some(0, 3, 9)}},
		{1, 10, []status.Miss{some(0, 0, 0)}},
		{2, 8, []status.Miss{some(0, 0, 3), some(0, 5, 10)}},
		{2, 10, []status.Miss{some(0, 5, 11), some(0, 0, 9)}},
		{1, 1, []status.Miss{some(0, 9, 10), some(0, 9, 0), some(0, 10, 0)}},
	} {
		if n, due := count(c.misses...); n != c.count || due != c.due {
			t.Errorf("%v: considered %d times, %d due, want %d, %d", c.misses, n, due, c.count, c.due)
		}
	}
}

// TestAnswered: the timer stops, and none was asked for, when the number asked for is ahead of Ack, missed or not.
func TestAnswered(t *testing.T) {
	begun := func() *amtx.Sender {
		x := of(t, config(10))
		wantOneByOne(t, x, 10, 0, "ab", "cd", "ef")
		wantPushed(t, x, "gh", "ij")
		wantBuild(t, x, 4, packet(3, 0, "gh"))
		wantTicks(t, x, 2)
		wantState(t, x, 0, 4, 2, 6)
		return x
	}
	x := begun()
	wantStatus(t, x, 2)
	wantState(t, x, 2, 4, 2, 6)
	wantStatus(t, x, 3, all(2))
	wantState(t, x, 2, 4, none, 0)
	x = begun()
	wantStatus(t, x, 2, all(0))
	wantState(t, x, 0, 4, 2, 6)
	wantStatus(t, x, 3, all(0))
	wantState(t, x, 0, 4, none, 0)
	x = begun()
	wantStatus(t, x, 3) // A is behind the number asked for then
	wantState(t, x, 3, 4, none, 0)
	x = begun()
	wantStatus(t, x, 4)
	wantState(t, x, 4, 4, none, 0)
}

// TestNothingOpenNothingAsked: the timer stops, when no number is open, though the number asked for came ahead of that.
func TestNothingOpenNothingAsked(t *testing.T) {
	x := of(t, config(10))
	wantOneByOne(t, x, 10, 0, "ab", "cd")
	wantStatus(t, x, 2, all(0))
	wantBuild(t, x, 4, polls(packet(0, 0, "ab")))
	wantState(t, x, 0, 2, 1, 8) // the last one that was opened, which is not open any more
	wantStatus(t, x, 1)
	wantState(t, x, 2, 2, none, 0)
	wantTicks(t, x, 10)
}

// TestTimerRunsOn: a status that answers nothing lets it run, asked for or not.
func TestTimerRunsOn(t *testing.T) {
	x := of(t, config(10))
	wantOneByOne(t, x, 10, 0, "ab", "cd", "ef")
	wantStatus(t, x, 3, some(0, 2, 0), some(1, 2, 0)) // open, and nothing due
	wantState(t, x, 0, 3, none, 0)
	wantTicks(t, x, 3)
	wantState(t, x, 0, 3, none, 6) // started by the first tick
	wantStatus(t, x, 1)
	wantState(t, x, 1, 3, none, 6)
	wantStatus(t, x, 2)
	wantState(t, x, 3, 3, none, 0)
}

// TestStatusAroundTheLastNumber: how far is meant from A, where the numbers begin anew.
func TestStatusAroundTheLastNumber(t *testing.T) {
	x := at(t, config(10), 1021)
	wantOneByOne(t, x, 10, 1021, "ab", "cd", "ef", "gh", "ij")
	wantNoStatus(t, x, api.ErrWindow, 3)
	wantNoStatus(t, x, api.ErrWindow, 1020)
	wantStatus(t, x, 0, all(1022), all(1))
	wantTold(t, x, told{state: [4]int{1022, 2, 1, 8}, due: 2, open: []int{1022, 0, 1}, counts: []int{1, 0, 0}})
	wantStatus(t, x, 1, some(1022, 1, 2), all(1023), all(1))
	wantTold(t, x, told{state: [4]int{1022, 2, 1, 8}, due: 2, open: []int{1022, 1}, counts: []int{1, 0}})
	wantStatus(t, x, 2, all(1022))
	wantTold(t, x, told{state: [4]int{1022, 2, none, 0}, due: 2, open: []int{1022}, counts: []int{1}})
	wantStatus(t, x, 1023)
	wantTold(t, x, told{state: [4]int{2, 2, none, 0}})
}

// TestWidestWindow: as many open numbers as may be.
func TestWidestWindow(t *testing.T) {
	x := of(t, config(10))
	for sn := range 511 {
		wantOneByOne(t, x, 10, sn, "a")
	}
	wantPushed(t, x, "b", "c")
	wantBuild(t, x, 3, polls(packet(511, 0, "b"))) // stalled
	wantNone(t, x, 3, api.ErrWindow)
	wantNoStatus(t, x, api.ErrWindow, 513)
	wantStatus(t, x, 512, all(511), all(0), some(7, 0, 1))
	wantOpen(t, x, 0, 7, 511)
	wantBuild(t, x, 3, polls(packet(0, 0, "a")), polls(packet(7, 0, "a")), polls(packet(511, 0, "b")))
	wantNone(t, x, 3, api.ErrWindow)
	wantStatus(t, x, 1)
	wantState(t, x, 7, 512, 511, 8)
	wantBuild(t, x, 3, polls(packet(512, 0, "c")))
}

// P22.4

// TestTimerEnds: the last open number is due then, all of it, and goes with Poll.
func TestTimerEnds(t *testing.T) {
	for _, ticks := range []int{1, 2, 8, api.MaxTicks} {
		x := changed(t, func(c *api.Config) { c.PollRetx = ticks })
		wantTicks(t, x, 3)
		wantOneByOne(t, x, 10, 0, "ab", "cd", "ef")
		wantStatus(t, x, 3, all(1), some(0, 1, 0))
		wantBuild(t, x, 100, part(0, 2, 1, true, "b"), polls(packet(1, 0, "cd")))
		wantState(t, x, 0, 3, 2, ticks)
		wantEnd(t, x, ticks)
		wantTold(t, x, told{state: [4]int{0, 3, 2, 0}, due: 2, open: []int{0, 1}, counts: []int{1, 2}})
		wantTicks(t, x, 3) // something is due, so that it does not run
		wantBuild(t, x, 100, polls(packet(1, 0, "cd")))
		wantState(t, x, 0, 3, 2, ticks)
	}
}

// TestTimerEndsWithWork: as long as something may go, nothing is considered; but it asks with that.
func TestTimerEndsWithWork(t *testing.T) {
	x := of(t, config(10))
	wantOneByOne(t, x, 10, 0, "ab", "cd")
	wantPushed(t, x, "ef", "gh", "ij", "kl")
	wantEnd(t, x, 8)
	wantTold(t, x, told{state: [4]int{0, 2, 1, 0}, waits: 8, open: []int{0, 1}, counts: []int{0, 0}})
	wantTicks(t, x, 2)
	wantState(t, x, 0, 2, 1, 0)
	wantBuild(t, x, 4, polls(packet(2, 0, "ef")))
	wantState(t, x, 0, 3, 2, 8)
	wantBuild(t, x, 4, packet(3, 0, "gh"))
	// what is due may go, too
	wantStatus(t, x, 1, all(0))
	wantOpen(t, x, 0, 1, 2, 3)
	wantEnd(t, x, 8)
	wantTold(t, x, told{state: [4]int{0, 4, 2, 0}, waits: 4, due: 2, open: []int{0, 1, 2, 3}, counts: []int{1, 0, 0, 0}})
	wantBuild(t, x, 4, polls(packet(0, 0, "ab")))
	wantState(t, x, 0, 4, 3, 8)
	wantBuild(t, x, 4, packet(4, 0, "ij"), polls(packet(5, 0, "kl")))
}

// TestTimerEndsStalled: the last open number is due then, and the timer starts anew, as the window is stalled.
func TestTimerEndsStalled(t *testing.T) {
	x := changed(t, func(c *api.Config) { c.Window, c.PollRetx = 3, 2 })
	wantPushed(t, x, "ab", "cd", "ef", "gh")
	wantBuild(t, x, 4, packet(0, 0, "ab"), packet(1, 0, "cd"), polls(packet(2, 0, "ef")))
	wantEnd(t, x, 2)
	want := told{state: [4]int{0, 3, 2, 2}, waits: 2, due: 2, open: []int{0, 1, 2}, counts: []int{0, 0, 1}}
	wantTold(t, x, want)
	for range 3 { // it did not go, so that it is not considered again
		wantEnd(t, x, 2)
		wantTold(t, x, want)
	}
	wantBuild(t, x, 4, polls(packet(2, 0, "ef")))
	wantStatus(t, x, 3, all(0), all(1))
	wantState(t, x, 0, 3, none, 0)
	wantTicks(t, x, 1)
	wantState(t, x, 0, 3, none, 2)
	wantEnd(t, x, 2)
	want = told{state: [4]int{0, 3, none, 2}, waits: 2, due: 4, open: []int{0, 1}, counts: []int{1, 1}}
	wantTold(t, x, want) // the last open one, which is due, and not the last one that was opened
	wantBuild(t, x, 4, polls(packet(0, 0, "ab")), polls(packet(1, 0, "cd")))
	wantEnd(t, x, 2)
	wantTold(t, x, told{state: [4]int{0, 3, 2, 2}, waits: 2, due: 2, open: []int{0, 1}, counts: []int{1, 2}})
}

// TestTimerStarts: with a tick, if it does not run, a number is open, and it is empty.
func TestTimerStarts(t *testing.T) {
	x := of(t, config(10))
	wantOneByOne(t, x, 10, 0, "ab", "cd")
	wantPushed(t, x, "ef")
	wantStatus(t, x, 2, all(0))
	wantTicks(t, x, 2)
	wantState(t, x, 0, 2, none, 0) // something is due, and waits
	wantBuild(t, x, 4, packet(0, 0, "ab"))
	wantTicks(t, x, 2)
	wantState(t, x, 0, 2, none, 0) // something waits
	wantDiscard(t, x, 3, api.OK)
	wantTicks(t, x, 1)
	wantState(t, x, 0, 2, none, 8)
	wantTicks(t, x, 1)
	wantState(t, x, 0, 2, none, 7)
	wantPushed(t, x, "gh") // what comes does not stop it
	wantEnd(t, x, 7)
	wantTold(t, x, told{state: [4]int{0, 2, none, 0}, waits: 2, open: []int{0}, counts: []int{1}})
	wantBuild(t, x, 3, polls(packet(2, 1, "g")))
}

// TestNoTimer: nothing is open, so that no timer runs.
func TestNoTimer(t *testing.T) {
	x := of(t, config(10))
	wantTicks(t, x, 20)
	wantTold(t, x, fresh)
	wantPushed(t, x, "ab")
	wantTicks(t, x, 20)
	wantBuild(t, x, 4, polls(packet(0, 0, "ab")))
	wantStatus(t, x, 1)
	wantTicks(t, x, 20)
	wantTold(t, x, told{state: [4]int{1, 1, none, 0}})
}

// P22.6

// TestFailsByStatuses: it fails with as many misses as its limit, and not ahead of them.
func TestFailsByStatuses(t *testing.T) {
	for limit := 1; limit <= 32; limit++ {
		x := changed(t, func(c *api.Config) { c.MaxRetx = limit })
		wantOneByOne(t, x, 10, 0, "ab", "0123")
		for n := 1; n <= limit+2; n++ {
			wantFailed(t, x, n > limit)
			wantStatus(t, x, 2, some(0, 2, 0), some(1, n%4, 0)) // of 0 no byte, of 1 some
			wantCount(t, x, 0, 0)
			wantCount(t, x, 1, n)
			wantFailed(t, x, n >= limit)
			want := part(1, 2, n%4, true, "0123"[n%4:])
			if n%4 == 0 {
				want = packet(1, 0, "0123")
			}
			wantBuild(t, x, 100, polls(want))
		}
		// it stays so, and sends on
		wantStatus(t, x, 2)
		wantFailed(t, x, true)
		wantOneByOne(t, x, 10, 2, "ef")
		wantStatus(t, x, 3)
		wantFailed(t, x, true)
		wantReset(t, x)
	}
}

func TestFailsByTicks(t *testing.T) {
	for _, limit := range []int{1, 2, 4, 32} {
		x := changed(t, func(c *api.Config) { c.MaxRetx = limit })
		wantOneByOne(t, x, 10, 0, "ab", "cd")
		for n := 1; n <= limit; n++ {
			wantFailed(t, x, false)
			wantEnd(t, x, 8)
			wantCount(t, x, 1, n)
			wantFailed(t, x, n == limit)
			wantBuild(t, x, 4, polls(packet(1, 0, "cd")))
		}
		wantCount(t, x, 0, 0)
		wantStatus(t, x, 2)
		wantFailed(t, x, true)
	}
}

// TestFailsByOneNumber: what was considered of several numbers is not counted together, nor that of a number that was acknowledged.
func TestFailsByOneNumber(t *testing.T) {
	x := changed(t, func(c *api.Config) { c.MaxRetx = 2 })
	for i := range 300 {
		wantOneByOne(t, x, 10, 4*i%1024, "ab", "cd", "ef", "gh")
		sn := func(n int) int { return (4*i + n) % 1024 }
		wantStatus(t, x, sn(4), all(sn(0)), all(sn(1)), all(sn(2)), all(sn(3)), all(sn(1)))
		for n := range 4 {
			wantCount(t, x, sn(n), 1)
		}
		wantStatus(t, x, sn(4))
		wantFailed(t, x, false)
	}
}

// rules 4 and 5 of the document

func TestWhatIsHandedInIsNotKept(t *testing.T) {
	x := of(t, config(10))
	b := []byte("abcd")
	if _, e := x.Push(b[:2]); e != api.OK {
		t.Fatalf("Push: %v", e)
	}
	copy(b, "xxxx")
	wantBuild(t, x, 10, polls(packet(0, 0, "ab")))
	misses := []status.Miss{some(0, 0, 1), some(0, 1, 0), all(5)}
	if e := x.Status(status.Status{Ack: 1, Misses: misses[:2]}); e != api.OK {
		t.Fatalf("Status: %v", e)
	}
	if string(b) != "xxxx" || !slices.Equal(misses, []status.Miss{some(0, 0, 1), some(0, 1, 0), all(5)}) {
		t.Errorf("handed in: %q %v", b, misses)
	}
	misses[0], misses[1] = all(7), all(7)
	wantBuild(t, x, 10, polls(packet(0, 0, "ab")))
}

func TestWhatIsHandedOutIsNewMemory(t *testing.T) {
	x := of(t, config(10))
	wantPushed(t, x, "ab", "cd", "ef", "gh")
	spoil := func(grant int, want amd.Packet) {
		t.Helper()
		p, e := x.Build(grant)
		if !amd.Same(p, want) || e != api.OK || cap(p.Fields) != len(p.Fields) {
			t.Fatalf("Build(%d): %v %v, want %v", grant, p, e, want)
		}
		for _, field := range p.Fields {
			if cap(field) != len(field) {
				t.Fatalf("Build(%d): room for %d behind %q", grant, cap(field)-len(field), field)
			}
			for i := range field {
				field[i] = 'x'
			}
		}
		p.Fields[0] = nil
	}
	spoil(8, packet(0, 0, "ab", "cd"))
	spoil(8, polls(packet(1, 0, "ef", "gh")))
	open := x.Open()
	if cap(open) != 2 {
		t.Errorf("Open: room for %d", cap(open))
	}
	open[0], open[1] = 7, 8
	wantOpen(t, x, 0, 1)
	for range 2 {
		wantStatus(t, x, 2, all(0), some(1, 1, 0))
		spoil(8, packet(0, 0, "ab", "cd"))
		spoil(9, polls(part(1, 2, 1, true, "f", "gh")))
	}
	wantPushed(t, x, "i")
	gone := x.Reset()
	if !slices.Equal(gone, []uint64{5}) || cap(gone) != 1 {
		t.Errorf("Reset: %v", gone)
	}
}

func TestSendersAreTheirOwn(t *testing.T) {
	a, b := of(t, config(10)), of(t, config(16))
	wantOneByOne(t, a, 10, 0, "ab", "cd")
	wantTold(t, b, fresh)
	wantOneByOne(t, b, 16, 0, "ef")
	wantStatus(t, a, 2, all(0))
	wantEnd(t, b, 8)
	wantTold(t, a, told{state: [4]int{0, 2, none, 0}, due: 2, open: []int{0}, counts: []int{1}})
	wantReset(t, a)
	wantBuild(t, b, 5, polls(packet(0, 0, "ef")))
}
