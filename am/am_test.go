package am_test

import (
	"bytes"
	"encoding/hex"
	"math"
	"reflect"
	"slices"
	"strings"
	"testing"

	"bowline/am"
	"bowline/amd"
	"bowline/api"
	"bowline/pdu"
	"bowline/status"
)

const none = -1 // no number was asked for

var (
	widths = []int{10, 16}
	// wrongGrants is grants that may not be.
	wrongGrants = []int{-1, -2, math.MinInt, api.MaxGrant + 1, math.MaxInt, 1<<32 + 5}
)

// config is one that may be, with numbers of so many bits.
func config(width int) api.Config {
	c := pdu.Usual(api.AM)
	c.Bits = width
	return c
}

// head is how many bytes a packet has ahead of its only field, and how many a status without misses has.
func head(width int) int { return 2 + width/16 }

func of(t *testing.T, c api.Config) *am.Entity {
	t.Helper()
	x, e := am.New(c)
	if x == nil || e != api.OK {
		t.Fatalf("New(%+v): %v", c, e)
	}
	return x
}

// changed is an entity of the usual config, but for something.
func changed(t *testing.T, change func(c *api.Config)) *am.Entity {
	t.Helper()
	c := config(10)
	change(&c)
	return of(t, c)
}

func long(n int) string { return strings.Repeat("0123456789", n/10+1)[:n] }

// packet is one without Poll.
func packet(sn, fi int, fields ...string) amd.Packet {
	p := amd.Packet{SN: sn, FI: fi}
	for _, field := range fields {
		p.Fields = append(p.Fields, []byte(field))
	}
	return p
}

// part is a part without Poll.
func part(sn, fi, offset int, last bool, fields ...string) amd.Packet {
	p := packet(sn, fi, fields...)
	p.Part, p.Offset, p.Last = true, offset, last
	return p
}

func polls(p amd.Packet) amd.Packet {
	p.Poll = true
	return p
}

// packed is the bytes of a packet that may be.
func packed(p amd.Packet, width int) []byte {
	b, e := amd.Write(p, width)
	if e != api.OK {
		panic(e)
	}
	return b
}

// report is the bytes of a status that may be.
func report(width, ack int, misses ...status.Miss) []byte {
	b, e := status.Write(status.Status{Ack: ack, Misses: misses}, width)
	if e != api.OK {
		panic(e)
	}
	return b
}

// all is a miss of all of a number.
func all(sn int) status.Miss { return status.Miss{SN: sn} }

// some is a miss of some bytes of a number.
func some(sn, from, to int) status.Miss { return status.Miss{SN: sn, Part: true, From: from, To: to} }

// told is what an entity tells.
type told struct {
	state      [10]int
	waits, due int
	unsure     int
	failed     bool
	bad        int
}

func toldOf(x *am.Entity) told {
	l := told{state: x.State(), unsure: x.Unsure(), failed: x.Failed(), bad: x.Bad()}
	l.waits, l.due = x.Waits()
	return l
}

// fresh is what an entity tells at first.
var fresh = told{state: [10]int{0, 0, none}}

func wantTold(t *testing.T, x *am.Entity, want told) {
	t.Helper()
	if l := toldOf(x); l != want {
		t.Fatalf("it tells %+v, want %+v", l, want)
	}
}

// wantSends wants the sender's numbers and its timer.
func wantSends(t *testing.T, x *am.Entity, first, next, asked, left int) {
	t.Helper()
	if s := x.State(); [4]int(s[:4]) != [4]int{first, next, asked, left} {
		t.Fatalf("State: %v, want %v first", s, [4]int{first, next, asked, left})
	}
}

// wantHears wants the receiver's numbers and its timers.
func wantHears(t *testing.T, x *am.Entity, want ...int) {
	t.Helper()
	if s := x.State(); !slices.Equal(s[4:], want) {
		t.Fatalf("State: %v, want %v at its end", s, want)
	}
}

func wantWaits(t *testing.T, x *am.Entity, waits, due int) {
	t.Helper()
	if n, m := x.Waits(); n != waits || m != due {
		t.Fatalf("Waits: %d %d, want %d %d", n, m, waits, due)
	}
}

func wantUnsure(t *testing.T, x *am.Entity, want int) {
	t.Helper()
	if n := x.Unsure(); n != want {
		t.Fatalf("Unsure: %d, want %d", n, want)
	}
}

func wantBad(t *testing.T, x *am.Entity, want int) {
	t.Helper()
	if n := x.Bad(); n != want {
		t.Fatalf("Bad: %d, want %d", n, want)
	}
}

func wantFailed(t *testing.T, x *am.Entity, want bool) {
	t.Helper()
	if is := x.Failed(); is != want {
		t.Fatalf("Failed: %v", is)
	}
}

// wantPushed pushes texts, and wants that none is refused.
func wantPushed(t *testing.T, x *am.Entity, texts ...string) {
	t.Helper()
	for _, text := range texts {
		if id, e := x.Push([]byte(text)); id == 0 || e != api.OK {
			t.Fatalf("Push of %d bytes: %d %v", len(text), id, e)
		}
	}
}

func wantPush(t *testing.T, x *am.Entity, text string, want uint64, e api.Errno) {
	t.Helper()
	if id, f := x.Push([]byte(text)); id != want || f != e {
		t.Fatalf("Push of %d bytes: %d %v, want %d %v", len(text), id, f, want, e)
	}
}

func wantDiscard(t *testing.T, x *am.Entity, id uint64, want api.Errno) {
	t.Helper()
	if e := x.Discard(id); e != want {
		t.Fatalf("Discard(%d): %v, want %v", id, e, want)
	}
}

// wantBuild wants some bytes, one behind the other, each of a grant.
func wantBuild(t *testing.T, x *am.Entity, grant int, want ...[]byte) {
	t.Helper()
	for _, w := range want {
		if b, e := x.Build(grant); !bytes.Equal(b, w) || e != api.OK {
			t.Fatalf("Build(%d): %x %v, want %x", grant, b, e, w)
		}
	}
}

// wantNone wants that nothing is built, and nothing changed.
func wantNone(t *testing.T, x *am.Entity, grant int, want api.Errno) {
	t.Helper()
	before := toldOf(x)
	if b, e := x.Build(grant); b != nil || e != want {
		t.Fatalf("Build(%d): %x %v, want %v", grant, b, e, want)
	}
	wantTold(t, x, before)
}

func wantHear(t *testing.T, x *am.Entity, b []byte, want ...string) {
	t.Helper()
	l, e := x.Hear(b)
	if !slices.EqualFunc(l, want, func(a []byte, b string) bool { return string(a) == b }) || e != api.OK {
		t.Fatalf("Hear(%x): %q %v, want %q", b, l, e, want)
	}
}

// wantRefused wants an error, and that nothing is told or changed.
func wantRefused(t *testing.T, x *am.Entity, b []byte, want api.Errno) {
	t.Helper()
	before := toldOf(x)
	if l, e := x.Hear(b); len(l) != 0 || e != want {
		t.Fatalf("Hear(%.20x): %q %v, want %v", b, l, e, want)
	}
	wantTold(t, x, before)
}

// wantNothing wants that bytes are nothing, which is counted, and that nothing else changed.
func wantNothing(t *testing.T, x *am.Entity, b []byte, want api.Errno) {
	t.Helper()
	before := toldOf(x)
	if l, e := x.Hear(b); len(l) != 0 || e != want {
		t.Fatalf("Hear(%.20x): %q %v, want %v", b, l, e, want)
	}
	before.bad++
	wantTold(t, x, before)
}

func ticks(x *am.Entity, many int) {
	for range many {
		x.Tick()
	}
}

func wantReset(t *testing.T, x *am.Entity, want ...uint64) {
	t.Helper()
	bad := x.Bad()
	if l := x.Reset(); !slices.Equal(l, want) {
		t.Fatalf("Reset: %v, want %v", l, want)
	}
	anew := fresh
	anew.bad = bad
	wantTold(t, x, anew)
}

func wantNoNew(t *testing.T, c api.Config, want api.Errno) {
	t.Helper()
	if x, e := am.New(c); x != nil || e != want {
		t.Fatalf("New(%+v): %v %v, want %v", c, x != nil, e, want)
	}
}

// P27.1

func TestNew(t *testing.T) {
	for _, width := range widths {
		for _, n := range []int{1, 2, 500, 512, 1000} {
			c := config(width)
			c.Window, c.Reorder, c.PollRetx, c.Prohibit = min(n, 512), n, n, n-1
			c.PollPDU, c.PollByte, c.MaxRetx, c.QueueBytes = n, 20*n, min(n, 32), 20*n
			x := of(t, c)
			wantTold(t, x, fresh)
			wantNone(t, x, api.MaxGrant, api.ErrNone)
			wantReset(t, x)
		}
	}
	c := config(16)
	c.Window = 1 << 15
	wantTold(t, of(t, c), fresh)
	wantTold(t, of(t, pdu.Usual(api.AM)), fresh)
}

func TestNewOfOtherModes(t *testing.T) {
	for _, mode := range []int{api.TM, api.UM} {
		c := pdu.Usual(mode)
		wantNoNew(t, c, api.ErrKind)
		c.QueueBytes = 0
		wantNoNew(t, c, api.ErrArg)
	}
	for _, mode := range []int{-1, 3, math.MinInt, math.MaxInt, 1<<32 + 2} {
		c := config(10)
		c.Mode = mode
		wantNoNew(t, c, api.ErrKind)
		wantNoNew(t, api.Config{Mode: mode}, api.ErrKind)
	}
}

func TestNewOfWrongConfigs(t *testing.T) {
	wrong := func(change func(c *api.Config)) {
		t.Helper()
		for _, width := range widths {
			c := config(width)
			change(&c)
			wantNoNew(t, c, api.ErrArg)
		}
	}
	for _, n := range []int{-1, math.MinInt, math.MaxInt, api.MaxBytes + 1} {
		wrong(func(c *api.Config) { c.Bits = n })
		wrong(func(c *api.Config) { c.Reorder = n })
		wrong(func(c *api.Config) { c.PollRetx = n })
		wrong(func(c *api.Config) { c.Prohibit = n })
		wrong(func(c *api.Config) { c.PollPDU = n })
		wrong(func(c *api.Config) { c.PollByte = n })
		wrong(func(c *api.Config) { c.MaxRetx = n })
		wrong(func(c *api.Config) { c.QueueBytes = n })
	}
	wrong(func(c *api.Config) { c.Bits = 5 })
	for _, n := range []int{0, -1, math.MinInt, math.MaxInt} {
		wrong(func(c *api.Config) { c.Window = n })
	}
	wrong(func(c *api.Config) { c.Window = 1<<c.Bits/2 + 1 })
	wrong(func(c *api.Config) { c.Reorder = 0 })
	wrong(func(c *api.Config) { c.QueueBytes = 0 })
	wantNoNew(t, api.Config{Mode: api.AM}, api.ErrArg)
}

func TestNoEntity(t *testing.T) {
	for _, x := range []*am.Entity{nil, {}} {
		for range 2 {
			for _, n := range []int{0, 1, api.MaxSDU, api.MaxSDU + 1} {
				wantPush(t, x, long(n), 0, api.ErrNil)
			}
			for _, id := range []uint64{0, 1, math.MaxUint64} {
				wantDiscard(t, x, id, api.ErrNil)
			}
			for _, grant := range append(wrongGrants, 0, 1, 5, api.MaxGrant) {
				wantNone(t, x, grant, api.ErrNil)
			}
			for _, b := range [][]byte{nil, {0x00}, {0x00, 0x14}, {0x80, 0x00, 'a'}, make([]byte, 5000)} {
				wantRefused(t, x, b, api.ErrNil)
			}
			x.Tick()
			if l := x.Reset(); len(l) != 0 {
				t.Errorf("Reset: %v", l)
			}
			wantTold(t, x, told{})
		}
	}
}

// TestCalls: an entity has the document's calls, and none of its sides' beside them.
func TestCalls(t *testing.T) {
	var names []string
	for m := range reflect.TypeFor[*am.Entity]().Methods() {
		names = append(names, m.Name)
	}
	want := []string{"Bad", "Build", "Discard", "Failed", "Hear", "Push", "Reset", "State", "Tick", "Unsure", "Waits"}
	if !slices.Equal(names, want) {
		t.Errorf("the calls %v, want %v", names, want)
	}
}

func TestPush(t *testing.T) {
	x := changed(t, func(c *api.Config) { c.QueueBytes = 2000 })
	wantPush(t, x, "", 0, api.ErrArg)
	wantPush(t, x, long(api.MaxSDU+1), 0, api.ErrLong)
	wantPush(t, x, long(api.MaxSDU), 1, api.OK)
	wantPush(t, x, long(api.MaxSDU-1), 2, api.OK)
	wantPush(t, x, "ab", 0, api.ErrFull)
	wantPush(t, x, "a", 3, api.OK)
	wantPush(t, x, "a", 0, api.ErrFull)
	wantWaits(t, x, 2000, 0)
	x = changed(t, func(c *api.Config) {})
	for range api.MaxQueue {
		wantPushed(t, x, "a")
	}
	wantPush(t, x, "a", 0, api.ErrFull)
}

func TestDiscard(t *testing.T) {
	x := changed(t, func(c *api.Config) {})
	wantPushed(t, x, "abc", "de", "f")
	wantDiscard(t, x, 0, api.ErrNone)
	wantDiscard(t, x, 4, api.ErrNone)
	wantDiscard(t, x, 2, api.OK)
	wantDiscard(t, x, 2, api.ErrNone)
	wantWaits(t, x, 4, 0)
	wantBuild(t, x, 4, packed(packet(0, 1, "ab"), 10))
	wantDiscard(t, x, 1, api.ErrState)
	wantBuild(t, x, 7, packed(polls(packet(1, 2, "c", "f")), 10))
	wantDiscard(t, x, 1, api.ErrNone)
}

func TestWaits(t *testing.T) {
	x := changed(t, func(c *api.Config) {})
	wantPushed(t, x, "abcdef", "g")
	wantWaits(t, x, 7, 0)
	wantBuild(t, x, 6, packed(packet(0, 1, "abcd"), 10))
	wantWaits(t, x, 3, 0)
	wantHear(t, x, report(10, 1, some(0, 1, 3)))
	wantWaits(t, x, 3, 2)
	wantBuild(t, x, 5, packed(part(0, 3, 1, false, "b"), 10))
	wantWaits(t, x, 3, 1)
}

func TestUnsure(t *testing.T) {
	x := changed(t, func(c *api.Config) { c.Window = 3 })
	wantPushed(t, x, "abcdef")
	for n := range 3 {
		wantUnsure(t, x, n)
		wantBuild(t, x, 3, packed(amd.Packet{
			Poll: n == 2, FI: []int{1, 3, 3}[n], SN: n, Fields: [][]byte{[]byte("abcdef")[n : n+1]},
		}, 10))
	}
	wantUnsure(t, x, 3)
	wantHear(t, x, report(10, 3, all(1)))
	wantUnsure(t, x, 1)
	wantHear(t, x, report(10, 3))
	wantUnsure(t, x, 0)
}

func TestFailed(t *testing.T) {
	x := changed(t, func(c *api.Config) { c.MaxRetx = 2 })
	wantPushed(t, x, "ab")
	wantBuild(t, x, 4, packed(polls(packet(0, 0, "ab")), 10))
	for n := range 2 {
		wantFailed(t, x, false)
		wantHear(t, x, report(10, 1, all(0)))
		wantFailed(t, x, n == 1)
		wantBuild(t, x, 4, packed(polls(packet(0, 0, "ab")), 10))
	}
	wantHear(t, x, report(10, 1))
	wantFailed(t, x, true)
	wantReset(t, x)
	wantFailed(t, x, false)
}

// TestState: the sender's numbers stand ahead of the receiver's.
func TestState(t *testing.T) {
	x := changed(t, func(c *api.Config) { c.Reorder, c.PollRetx, c.Prohibit = 40, 80, 30 })
	wantPushed(t, x, "abc")
	wantBuild(t, x, 3, packed(packet(0, 1, "a"), 10), packed(packet(1, 3, "b"), 10))
	wantHear(t, x, report(10, 1))
	wantBuild(t, x, 3, packed(polls(packet(2, 2, "c")), 10))
	ticks(x, 1)
	wantHear(t, x, packed(polls(packet(0, 0, "A")), 10), "A")
	wantHear(t, x, packed(packet(4, 0, "E"), 10))
	wantHear(t, x, packed(packet(2, 0, "C"), 10))
	wantBuild(t, x, 100, report(10, 1))
	ticks(x, 1)
	if s, want := x.State(), [10]int{1, 3, 2, 78, 1, 1, 5, 5, 39, 29}; s != want {
		t.Errorf("State: %v, want %v", s, want)
	}
}

// P27.2

func TestExample(t *testing.T) {
	x, y := changed(t, func(c *api.Config) {}), changed(t, func(c *api.Config) {})
	wantPushed(t, x, "ab", "c")
	b, e := x.Build(100)
	if e != api.OK {
		t.Fatalf("Build: %v", e)
	}
	wantHear(t, y, b, "ab", "c")
	wantUnsure(t, x, 1)
	b, e = y.Build(100)
	if e != api.OK {
		t.Fatalf("Build: %v", e)
	}
	wantHear(t, x, b)
	wantUnsure(t, x, 0)
}

// TestBytes holds what is built against bytes that are written out.
func TestBytes(t *testing.T) {
	for _, c := range []struct {
		width              int
		whole, again, acks string
	}{
		{10, "a0006162", "f000800162", "0004"},
		{16, "a000006162", "f20000000162", "000010"},
	} {
		x, y := of(t, config(c.width)), of(t, config(c.width))
		whole, again, acks := fromHex(t, c.whole), fromHex(t, c.again), fromHex(t, c.acks)
		wantPushed(t, x, "ab")
		wantBuild(t, x, 100, whole)
		wantHear(t, x, report(c.width, 1, some(0, 1, 2)))
		wantBuild(t, x, 100, again)
		wantHear(t, y, again)
		wantHear(t, y, whole, "ab")
		wantBuild(t, y, 100, acks)
		wantHear(t, x, acks)
		wantUnsure(t, x, 0)
	}
}

func fromHex(t *testing.T, text string) []byte {
	t.Helper()
	b, e := hex.DecodeString(text)
	if e != nil {
		t.Fatal(e)
	}
	return b
}

// wanting is an entity that has a text to send, and of which a status is wanted.
func wanting(t *testing.T, width int) *am.Entity {
	t.Helper()
	x := of(t, config(width))
	wantPushed(t, x, "abcdef")
	wantHear(t, x, packed(polls(packet(0, 0, "A")), width), "A")
	return x
}

func TestWrongGrants(t *testing.T) {
	for _, width := range widths {
		x := wanting(t, width)
		y := of(t, config(width))
		for _, grant := range wrongGrants {
			wantNone(t, x, grant, api.ErrArg)
			wantNone(t, y, grant, api.ErrArg)
		}
		wantBuild(t, x, api.MaxGrant, report(width, 1))
		for _, grant := range wrongGrants {
			wantNone(t, x, grant, api.ErrArg)
		}
		wantBuild(t, x, api.MaxGrant, packed(polls(packet(0, 0, "abcdef")), width))
	}
}

// TestSendersErrors: what the sender refuses is refused.
func TestSendersErrors(t *testing.T) {
	for _, width := range widths {
		c := config(width)
		c.Window = 2
		x := of(t, c)
		for _, grant := range []int{0, 1, head(width), api.MaxGrant} {
			wantNone(t, x, grant, api.ErrNone)
		}
		wantPushed(t, x, "abc")
		for grant := range head(width) + 1 {
			wantNone(t, x, grant, api.ErrGrant)
		}
		wantBuild(t, x, head(width)+1, packed(packet(0, 1, "a"), width), packed(polls(packet(1, 3, "b")), width))
		wantNone(t, x, 0, api.ErrWindow)
		wantNone(t, x, api.MaxGrant, api.ErrWindow)
		wantHear(t, x, report(width, 1, all(0)))
		for grant := range head(width) + 1 {
			wantNone(t, x, grant, api.ErrGrant)
		}
	}
}

// P27.4, too

func TestStatusGoesAhead(t *testing.T) {
	for _, width := range widths {
		x := wanting(t, width)
		wantBuild(t, x, head(width), report(width, 1))
		wantBuild(t, x, 100, packed(polls(packet(0, 0, "abcdef")), width))
		wantHear(t, x, report(width, 1, all(0)))
		ticks(x, 3)
		wantHear(t, x, packed(polls(packet(1, 0, "B")), width), "B")
		wantBuild(t, x, 100, report(width, 2), packed(polls(packet(0, 0, "abcdef")), width))
		wantNone(t, x, 100, api.ErrNone)
	}
}

func TestStatusThatDoesNotFit(t *testing.T) {
	for _, width := range widths {
		x := wanting(t, width)
		for grant := range head(width) {
			wantNone(t, x, grant, api.ErrGrant)
		}
		wantBuild(t, x, head(width), report(width, 1))
		y := of(t, config(width))
		wantHear(t, y, packed(polls(packet(0, 0, "A")), width), "A")
		for grant := range head(width) {
			wantNone(t, y, grant, api.ErrNone)
		}
		wantBuild(t, y, head(width), report(width, 1))
		wantNone(t, y, head(width), api.ErrNone)
	}
}

// TestStatusToAGrant: of what is missing a status names as much as fits.
func TestStatusToAGrant(t *testing.T) {
	for _, c := range []struct {
		grant int
		want  []byte
	}{
		{2, report(10, 0)},
		{3, report(10, 0)},
		{4, report(10, 2, all(0))},
		{5, report(10, 4, all(0), all(2))},
		{6, report(10, 4, all(0), all(2))},
		{7, report(10, 6, all(0), all(2), all(4))},
		{100, report(10, 6, all(0), all(2), all(4))},
	} {
		x := changed(t, func(c *api.Config) {})
		for _, sn := range []int{1, 3, 5} {
			wantHear(t, x, packed(packet(sn, 0, "a"), 10))
		}
		ticks(x, 8)
		wantBuild(t, x, c.grant, c.want)
	}
}

// TestProhibited: as long as no status may go, the packets do.
func TestProhibited(t *testing.T) {
	x := wanting(t, 10)
	wantBuild(t, x, 100, report(10, 1))
	wantHear(t, x, packed(polls(packet(1, 0, "B")), 10), "B")
	wantBuild(t, x, 4, packed(packet(0, 1, "ab"), 10))
	ticks(x, 2)
	wantBuild(t, x, 4, packed(packet(1, 3, "cd"), 10))
	ticks(x, 1)
	wantBuild(t, x, 4, report(10, 2), packed(polls(packet(2, 2, "ef")), 10))
	x = changed(t, func(c *api.Config) { c.Prohibit = 0 })
	for sn := range 3 {
		wantHear(t, x, packed(polls(packet(sn, 0, "A")), 10), "A")
		wantBuild(t, x, 4, report(10, sn+1))
	}
}

// P27.3 and P27.5

func TestNothing(t *testing.T) {
	for _, c := range []struct {
		width int
		b     string
		e     api.Errno
	}{
		{10, "", api.ErrShort},
		{10, "\x80", api.ErrShort},
		{10, "\x80\x05", api.ErrShort},
		{10, "\xc0\x05\x00\x00", api.ErrShort},
		{10, "\x84\x05\x00\x10\x00", api.ErrShort},
		{10, "\x84\x05\x00\x00\x00a", api.ErrForm},
		{10, "\x80\x00" + long(api.MaxPDU-1), api.ErrLong},
		{16, "\x81\x00\x05a", api.ErrForm},
		{16, "\x80\x00\x00" + long(api.MaxPDU-2), api.ErrLong},
		{10, "\x00", api.ErrShort},
		{10, "\x10\x14", api.ErrForm},
		{10, "\x00\x15", api.ErrForm},
		{10, "\x00\x14\x00", api.ErrForm},
		{16, "\x00\x00", api.ErrShort},
		{10, "\x0f" + strings.Repeat("\xff", 300), api.ErrLong},
	} {
		x := wanting(t, c.width)
		wantBad(t, x, 0)
		for n := range 3 {
			wantNothing(t, x, []byte(c.b), c.e)
			wantBad(t, x, n+1)
		}
		wantBuild(t, x, 100, report(c.width, 1), packed(polls(packet(0, 0, "abcdef")), c.width))
		wantReset(t, x)
		wantBad(t, x, 3)
		wantNothing(t, x, []byte(c.b), c.e)
	}
}

// TestRefused: what the sender or the receiver refuses is something; it is not counted.
func TestRefused(t *testing.T) {
	for _, width := range widths {
		x := wanting(t, width)
		wantBuild(t, x, 100, report(width, 1), packed(polls(packet(0, 0, "abcdef")), width))
		wantRefused(t, x, report(width, 2), api.ErrWindow)
		wantRefused(t, x, report(width, 1<<width-1, all(0)), api.ErrWindow)
		wantRefused(t, x, packed(packet(0, 0, "A"), width), api.ErrWindow)
		wantRefused(t, x, packed(packet(513, 0, "A"), width), api.ErrWindow)
		wantHear(t, x, packed(packet(2, 0, "C"), width))
		wantRefused(t, x, packed(packet(2, 0, "C"), width), api.ErrTwice)
		wantHear(t, x, packed(part(3, 1, 0, false, "De"), width))
		wantRefused(t, x, packed(part(3, 2, 1, true, "e"), width), api.ErrTwice)
		wantRefused(t, x, packed(part(3, 2, 0, true, "D"), width), api.ErrForm)
		wantRefused(t, x, packed(part(4, 0, api.MaxPDU, false, "E"), width), api.ErrArg)
		wantBad(t, x, 0)
	}
}

// TestRefusedPolls: the other side may have missed what it was told, so a packet that comes twice is answered.
func TestRefusedPolls(t *testing.T) {
	x := wanting(t, 10)
	wantBuild(t, x, 100, report(10, 1))
	ticks(x, 3)
	for range 2 {
		wantRefused(t, x, packed(polls(packet(0, 0, "A")), 10), api.ErrWindow)
	}
	wantBuild(t, x, 100, report(10, 1), packed(polls(packet(0, 0, "abcdef")), 10))
}

// TestStatusTellsNothing: a status is the sender's, a packet the receiver's alone.
func TestStatusTellsNothing(t *testing.T) {
	x := wanting(t, 10)
	wantBuild(t, x, 100, report(10, 1), packed(polls(packet(0, 0, "abcdef")), 10))
	hears := x.State()
	wantHear(t, x, report(10, 1, some(0, 2, 0)))
	if s := x.State(); !slices.Equal(s[4:], hears[4:]) {
		t.Errorf("State: %v, was %v", s, hears)
	}
	wantSends(t, x, 0, 1, none, 0)
	wantWaits(t, x, 0, 4)
	wantHear(t, x, packed(packet(1, 0, "B", "C"), 10), "B", "C")
	wantSends(t, x, 0, 1, none, 0)
	wantHears(t, x, 2, 2, 2, 0, 0, 3)
}

func TestParts(t *testing.T) {
	for _, width := range widths {
		x, y := of(t, config(width)), of(t, config(width))
		wantPushed(t, x, "abcdef", "gh")
		whole, e := x.Build(100)
		if e != api.OK {
			t.Fatalf("Build: %v", e)
		}
		wantHear(t, x, report(width, 1, all(0)))
		var told []string
		for range 8 {
			b, e := x.Build(head(width) + 3)
			if e != api.OK {
				t.Fatalf("Build: %v", e)
			}
			l, e := y.Hear(b)
			if e != api.OK {
				t.Fatalf("Hear(%x): %v", b, e)
			}
			for _, text := range l {
				told = append(told, string(text))
			}
		}
		wantNone(t, x, 100, api.ErrNone)
		if !slices.Equal(told, []string{"abcdef", "gh"}) {
			t.Errorf("told %q", told)
		}
		wantRefused(t, y, whole, api.ErrWindow)
	}
}

// TestTick: both sides' timers run.
func TestTick(t *testing.T) {
	x := changed(t, func(c *api.Config) { c.Reorder, c.PollRetx, c.Prohibit = 2, 3, 4 })
	wantPushed(t, x, "a")
	wantBuild(t, x, 100, packed(polls(packet(0, 0, "a")), 10))
	wantHear(t, x, packed(polls(packet(0, 0, "A")), 10), "A")
	wantBuild(t, x, 100, report(10, 1))
	wantHear(t, x, packed(packet(2, 0, "C"), 10))
	ticks(x, 1)
	wantSends(t, x, 0, 1, 0, 2)
	wantHears(t, x, 1, 1, 3, 3, 1, 3)
	ticks(x, 1)
	wantSends(t, x, 0, 1, 0, 1)
	wantHears(t, x, 1, 3, 3, 3, 0, 2)
	wantNone(t, x, 100, api.ErrNone)
	ticks(x, 1)
	wantSends(t, x, 0, 1, 0, 0)
	wantWaits(t, x, 0, 1)
	ticks(x, 1)
	wantHears(t, x, 1, 3, 3, 3, 0, 0)
	wantBuild(t, x, 100, report(10, 3, all(1)), packed(polls(packet(0, 0, "a")), 10))
}

func TestReset(t *testing.T) {
	for _, width := range widths {
		c := config(width)
		c.MaxRetx = 1
		x := of(t, c)
		wantReset(t, x)
		wantPushed(t, x, "abcd", "ef", "gh")
		wantDiscard(t, x, 2, api.OK)
		wantBuild(t, x, head(width)+2, packed(packet(0, 1, "ab"), width))
		wantHear(t, x, report(width, 1, all(0)))
		wantHear(t, x, packed(polls(packet(0, 1, "A")), width))
		wantHear(t, x, packed(polls(packet(2, 0, "C")), width))
		wantHear(t, x, packed(part(1, 0, 0, false, "B"), width))
		wantNothing(t, x, nil, api.ErrShort)
		wantFailed(t, x, true)
		wantReset(t, x, 1, 3)
		wantReset(t, x)
		wantNone(t, x, 100, api.ErrNone)
		wantPush(t, x, "i", 4, api.OK)
		wantBuild(t, x, 100, packed(polls(packet(0, 0, "i")), width))
		wantHear(t, x, packed(packet(0, 0, "D"), width), "D")
		wantHear(t, x, packed(packet(1, 0, "E"), width), "E")
		wantHears(t, x, 2, 2, 2, 0, 0, 0)
	}
}

// rules 4 and 5 of the document

func TestWhatIsHandedInIsNotKept(t *testing.T) {
	x := changed(t, func(c *api.Config) {})
	text := []byte("abcxyz")
	if _, e := x.Push(text[:3]); e != api.OK {
		t.Fatalf("Push: %v", e)
	}
	copy(text, "......")
	wantBuild(t, x, 100, packed(polls(packet(0, 0, "abc")), 10))
	for _, b := range [][]byte{
		packed(part(0, 0, 0, false, "AB"), 10), packed(packet(1, 0, "D"), 10), report(10, 1, some(0, 1, 2)),
	} {
		n := len(b)
		b = append(b, "xyz"...)
		was := bytes.Clone(b)
		wantHear(t, x, b[:n])
		if !bytes.Equal(b, was) {
			t.Errorf("what was handed in is changed: %x", b)
		}
		clear(b)
	}
	wantBuild(t, x, 100, packed(polls(part(0, 3, 1, false, "b")), 10))
	wantHear(t, x, packed(part(0, 0, 2, true, "C"), 10), "AB", "C", "D")
}

func TestWhatIsHandedOutIsNewMemory(t *testing.T) {
	x := changed(t, func(c *api.Config) { c.PollPDU = 1 })
	wantPushed(t, x, "abc", "def")
	one, _ := x.Build(100)
	was := bytes.Clone(one)
	clear(one)
	_ = append(one, "xyz"...)
	wantHear(t, x, report(10, 1, all(0)))
	wantBuild(t, x, 100, was)
	texts, _ := x.Hear(packed(packet(0, 1, "A", "B", "C"), 10))
	for _, text := range texts {
		clear(text)
		_ = append(text, "zzz"...)
		if cap(text) != len(text) {
			t.Errorf("there is room behind %q", text)
		}
	}
	if len(texts) != 2 || cap(texts) != 2 || cap(one) != len(one) {
		t.Errorf("%d texts, room for %d; %d bytes, room for %d", len(texts), cap(texts), len(one), cap(one))
	}
	wantHear(t, x, packed(polls(packet(1, 2, "c", "D")), 10), "Cc", "D")
	s, _ := x.Build(100)
	if cap(s) != len(s) {
		t.Errorf("there is room behind %x", s)
	}
	wantPushed(t, x, "g", "h")
	ids := x.Reset()
	if !slices.Equal(ids, []uint64{3, 4}) || cap(ids) != 2 {
		t.Errorf("Reset: %v, room for %d", ids, cap(ids))
	}
}

func TestEntitiesAreTheirOwn(t *testing.T) {
	x, y := wanting(t, 10), changed(t, func(c *api.Config) {})
	wantNothing(t, x, nil, api.ErrShort)
	wantTold(t, y, fresh)
	wantNone(t, y, 100, api.ErrNone)
	before := toldOf(x)
	wantPushed(t, y, "z")
	wantReset(t, y, 1)
	wantTold(t, x, before)
	wantBuild(t, x, 100, report(10, 1), packed(polls(packet(0, 0, "abcdef")), 10))
}
