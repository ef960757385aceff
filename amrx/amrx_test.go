package amrx_test

import (
	"bytes"
	"math"
	"reflect"
	"slices"
	"strconv"
	"strings"
	"testing"

	"bowline/amd"
	"bowline/amrx"
	"bowline/api"
	"bowline/pdu"
	"bowline/status"
)

var (
	widths = []int{10, 16}
	// wrongGrants is grants that may not be.
	wrongGrants = []int{-1, -2, math.MinInt, api.MaxGrant + 1, math.MaxInt, 1<<32 + 5}
)

// config is one that may be, with numbers of so many bits.
func config(width, window int) api.Config {
	c := pdu.Usual(api.AM)
	c.Bits, c.Window = width, window
	return c
}

func of(t *testing.T, c api.Config) *amrx.Receiver {
	t.Helper()
	x, e := amrx.New(c)
	if x == nil || e != api.OK {
		t.Fatalf("New(%+v): %v", c, e)
	}
	return x
}

// usual is a receiver of numbers of 10 bits and the greatest window, whose timer of reordering starts with four ticks, that of prohibiting with three.
func usual(t *testing.T) *amrx.Receiver {
	t.Helper()
	return of(t, config(10, 512))
}

// packet is one without Poll.
func packet(sn, fi int, fields ...string) amd.Packet {
	p := amd.Packet{SN: sn, FI: fi}
	for _, field := range fields {
		p.Fields = append(p.Fields, []byte(field))
	}
	return p
}

// part is a part without Poll.
func part(sn, fi, offset int, last bool, fields ...string) amd.Packet {
	p := packet(sn, fi, fields...)
	p.Part, p.Offset, p.Last = true, offset, last
	return p
}

func polls(p amd.Packet) amd.Packet {
	p.Poll = true
	return p
}

// text is what the whole packet of a number tells.
func text(sn int) string { return "text" + strconv.Itoa(sn) }

// one is the whole packet of a number, which tells a text.
func one(sn int) amd.Packet { return packet(sn, 0, text(sn)) }

// texts is what the whole packets of some numbers tell.
func texts(numbers ...int) []string {
	var l []string
	for _, n := range numbers {
		l = append(l, text(n))
	}
	return l
}

// long is a text of so many bytes.
func long(n int) string { return strings.Repeat("0123456789", n/10+1)[:n] }

// all is a miss of all of a number.
func all(sn int) status.Miss { return status.Miss{SN: sn} }

// some is a miss of some bytes of a number.
func some(sn, from, to int) status.Miss { return status.Miss{SN: sn, Part: true, From: from, To: to} }

func same(a [][]byte, b []string) bool {
	return slices.EqualFunc(a, b, func(a []byte, b string) bool { return string(a) == b })
}

// state is what there is to ask of a receiver: R, MS, H, X, both timers; how many bytes are held; whether a status may be told.
type state struct {
	numbers [6]int
	held    int
	wants   bool
}

func stateOf(x *amrx.Receiver) state { return state{x.State(), x.Held(), x.Wants()} }

func wantState(t *testing.T, x *amrx.Receiver, want state) {
	t.Helper()
	if s := stateOf(x); s != want {
		t.Fatalf("state %+v, want %+v", s, want)
	}
}

// wantNumbers is R, MS, H, X, and how many ticks the timer of reordering has left.
func wantNumbers(t *testing.T, x *amrx.Receiver, r, ms, h, until, left int) {
	t.Helper()
	if s, want := x.State(), [5]int{r, ms, h, until, left}; [5]int(s[:5]) != want {
		t.Fatalf("State: %v, want %v", s, want)
	}
}

func wantWants(t *testing.T, x *amrx.Receiver, want bool) {
	t.Helper()
	if is := x.Wants(); is != want {
		t.Fatalf("Wants: %v", is)
	}
}

// wantHear holds what is told of a packet against texts.
func wantHear(t *testing.T, x *amrx.Receiver, p amd.Packet, want ...string) {
	t.Helper()
	if l, e := x.Hear(p); e != api.OK || !same(l, want) {
		t.Fatalf("Hear(%.200s): %.60q %v, want %.60q; %+v", shown(p), l, e, want, stateOf(x))
	}
}

// wantRefused holds that a packet is refused, and that all that comes of it is that a status is wanted, if it has Poll.
func wantRefused(t *testing.T, x *amrx.Receiver, p amd.Packet, want api.Errno) {
	t.Helper()
	for _, p.Poll = range []bool{false, true} {
		before := stateOf(x)
		if l, e := x.Hear(p); e != want || len(l) != 0 {
			t.Fatalf("Hear(%.200s): %q %v, want %v; %+v", shown(p), l, e, want, before)
		}
		before.wants = before.wants || p.Poll && before.numbers[5] == 0
		wantState(t, x, before)
	}
}

// wantAnswered is wantRefused of one that wants no status yet, which is told then.
func wantAnswered(t *testing.T, x *amrx.Receiver, p amd.Packet, want api.Errno, s status.Status) {
	t.Helper()
	wantNoReport(t, x, api.MaxGrant, api.ErrNone)
	wantRefused(t, x, p, want)
	wantReport(t, x, s.Ack, s.Misses...)
}

func shown(p amd.Packet) string {
	return strconv.Itoa(p.SN) + " FI " + strconv.Itoa(p.FI) + " at " + strconv.Itoa(p.Offset) + ": " + string(bytes.Join(p.Fields, []byte(", ")))
}

func wantTicks(t *testing.T, x *amrx.Receiver, many int) {
	t.Helper()
	for range many {
		x.Tick()
	}
}

func wantReport(t *testing.T, x *amrx.Receiver, ack int, misses ...status.Miss) {
	t.Helper()
	want := status.Status{Ack: ack, Misses: misses}
	if s, e := x.Report(api.MaxGrant); !status.Same(s, want) || e != api.OK {
		t.Fatalf("Report: %v %v, want %v; %+v", s, e, want, stateOf(x))
	}
	wantWants(t, x, false)
}

func wantNoReport(t *testing.T, x *amrx.Receiver, grant int, want api.Errno) {
	t.Helper()
	before := stateOf(x)
	if s, e := x.Report(grant); s.Ack != 0 || len(s.Misses) != 0 || e != want {
		t.Fatalf("Report(%d): %v %v, want %v", grant, s, e, want)
	}
	wantState(t, x, before)
}

func wantNoNew(t *testing.T, c api.Config, want api.Errno) {
	t.Helper()
	if x, e := amrx.New(c); x != nil || e != want {
		t.Fatalf("New(%+v): %v %v, want %v", c, x != nil, e, want)
	}
}

const tick = -1

// step is a tick, or the whole packet of a number, and what comes of it: the texts of numbers, R, MS, H, X, and the timer of reordering.
type step struct {
	n       int
	told    []int
	numbers [5]int
}

func play(t *testing.T, x *amrx.Receiver, steps ...step) {
	t.Helper()
	for i, s := range steps {
		if s.n == tick {
			x.Tick()
		} else {
			wantHear(t, x, one(s.n), texts(s.told...)...)
		}
		if is := x.State(); [5]int(is[:5]) != s.numbers {
			t.Fatalf("behind the step %d: %v, want %v", i, is, s.numbers)
		}
	}
}

// P26.1

func TestNew(t *testing.T) {
	wantNew := func(change func(c *api.Config)) {
		t.Helper()
		for _, width := range widths {
			c := config(width, 1<<width/2)
			change(&c)
			x := of(t, c)
			wantState(t, x, state{})
			wantNoReport(t, x, api.MaxGrant, api.ErrNone)
			x.Tick()
			x.Reset()
			wantState(t, x, state{})
		}
	}
	wantNew(func(c *api.Config) {})
	wantNew(func(c *api.Config) { *c = pdu.Usual(api.AM) })
	for _, n := range []int{1, 2, api.MaxTicks - 1, api.MaxTicks} {
		wantNew(func(c *api.Config) { c.Reorder = n })
		wantNew(func(c *api.Config) { c.Prohibit = n })
		wantNew(func(c *api.Config) { c.PollRetx = n })
		wantNew(func(c *api.Config) { c.Window = min(n, 512) })
	}
	wantNew(func(c *api.Config) { c.Prohibit = 0 })
}

func TestNewOfOtherModes(t *testing.T) {
	for _, mode := range []int{api.TM, api.UM} {
		c := pdu.Usual(mode)
		wantNoNew(t, c, api.ErrKind)
		// a config that may not be is Check's to refuse, whichever mode it has
		c.QueueBytes = 0
		wantNoNew(t, c, api.ErrArg)
	}
	for _, mode := range []int{-1, 3, math.MinInt, math.MaxInt, 1<<32 + 2} {
		c := config(10, 512)
		c.Mode = mode
		wantNoNew(t, c, api.ErrKind)
		wantNoNew(t, api.Config{Mode: mode}, api.ErrKind)
	}
}

func TestNewOfWrongConfigs(t *testing.T) {
	wrong := func(change func(c *api.Config)) {
		t.Helper()
		for _, width := range widths {
			c := config(width, 1<<width/2)
			change(&c)
			wantNoNew(t, c, api.ErrArg)
		}
	}
	for _, n := range []int{-1, math.MinInt, math.MaxInt, api.MaxBytes + 1, 1 << 32} {
		wrong(func(c *api.Config) { c.Bits = n })
		wrong(func(c *api.Config) { c.Reorder = n })
		wrong(func(c *api.Config) { c.Prohibit = n })
		wrong(func(c *api.Config) { c.PollRetx = n })
		wrong(func(c *api.Config) { c.QueueBytes = n })
	}
	for _, n := range []int{0, -1, math.MinInt, math.MaxInt, 1<<32 + 1} {
		wrong(func(c *api.Config) { c.Window = n })
	}
	wrong(func(c *api.Config) { c.Window = 1<<c.Bits/2 + 1 })
	wrong(func(c *api.Config) { c.Reorder = 0 })
	wrong(func(c *api.Config) { c.Reorder = api.MaxTicks + 1 })
	wrong(func(c *api.Config) { c.Prohibit = api.MaxTicks + 1 })
	wrong(func(c *api.Config) { c.MaxRetx = 0 })
	wrong(func(c *api.Config) { c.PollPDU = 0 })
	for _, n := range []int{0, 1, 5, 9, 11, 15, 17, 1<<32 + 10} {
		wrong(func(c *api.Config) { c.Bits = n })
	}
}

func TestNoReceiver(t *testing.T) {
	for _, x := range []*amrx.Receiver{nil, {}} {
		for range 2 {
			for _, p := range []amd.Packet{{}, one(0), polls(one(1)), part(0, 0, 3, true, "ab"), polls(packet(-1, 9))} {
				if l, e := x.Hear(p); len(l) != 0 || e != api.ErrNil {
					t.Errorf("Hear(%s): %q %v", shown(p), l, e)
				}
			}
			for _, grant := range append(wrongGrants, 0, 2, api.MaxGrant) {
				wantNoReport(t, x, grant, api.ErrNil)
			}
			x.Tick()
			x.Reset()
			wantState(t, x, state{})
		}
	}
}

func TestCalls(t *testing.T) {
	var names []string
	for m := range reflect.TypeFor[*amrx.Receiver]().Methods() {
		names = append(names, m.Name)
	}
	want := []string{"Hear", "Held", "Report", "Reset", "State", "Tick", "Wants"}
	if !slices.Equal(names, want) {
		t.Errorf("the calls %v, want %v", names, want)
	}
}

func TestHeld(t *testing.T) {
	x := usual(t)
	held := func(want int) {
		t.Helper()
		if n := x.Held(); n != want {
			t.Fatalf("Held: %d, want %d", n, want)
		}
	}
	wantHear(t, x, packet(0, 1, "abc")) // at the glue
	held(0)
	wantHear(t, x, packet(2, 0, "defg", "h"))
	held(5)
	wantHear(t, x, part(4, 0, 0, false, "ij"))
	held(7)
	wantHear(t, x, part(4, 1, 1, false, "jkl"))
	held(9)
	wantHear(t, x, part(1, 2, 1, true, "m"))
	held(10)
	wantHear(t, x, part(1, 3, 0, false, "n"), "abcnm", "defg", "h")
	held(4)
}

// P26.2: what is refused

func TestMayNotBe(t *testing.T) {
	for _, width := range widths {
		head := 2 + width/16
		for _, p := range []amd.Packet{
			{},
			packet(0, 0),
			packet(0, 0, ""),
			packet(0, 0, "a", "", "b"),
			packet(0, -1, "a"),
			packet(0, 4, "a"),
			packet(-1, 0, "a"),
			packet(1<<width, 0, "a"),
			packet(math.MinInt, 0, "a"),
			packet(math.MaxInt, 0, "a"),
			packet(0, 0, long(api.MaxPDU-head+1)),
			packet(0, 0, long(api.MaxLen+1), "a"),
			packet(0, 0, slices.Repeat([]string{"a"}, api.MaxFields+1)...),
			part(0, 0, -1, false, "a"),
			part(0, 0, 1<<(15+width/16), false, "a"),
			part(0, 0, math.MaxInt, false, "a"),
			{Last: true, Fields: [][]byte{{'a'}}},
			{Offset: 1, Fields: [][]byte{{'a'}}},
		} {
			x := of(t, config(width, 8))
			wantAnswered(t, x, p, api.ErrForm, status.Status{})
			wantHear(t, x, one(1))
			wantTicks(t, x, 3)
			wantAnswered(t, x, p, api.ErrForm, status.Status{})
			wantTicks(t, x, 4)
			wantReport(t, x, 2, all(0)) // the timer ran on
			wantHear(t, x, one(0), texts(0, 1)...)
		}
	}
}

func TestWindow(t *testing.T) {
	for _, width := range widths {
		size := 1 << width
		for _, window := range []int{1, 2, 7, size / 2} {
			x := of(t, config(width, window))
			for _, n := range []int{window, window + 1, size - 2, size - 1} {
				if n < window {
					continue
				}
				wantRefused(t, x, one(n), api.ErrWindow)
				wantReport(t, x, 0)
				wantTicks(t, x, 3)
			}
			if window > 1 {
				wantHear(t, x, one(window-1))
				wantNumbers(t, x, 0, 0, window, window, 4)
			}
			// an error of a packet that may not be goes ahead
			p := one(window)
			p.FI = 4
			wantRefused(t, x, p, api.ErrForm)
		}
	}
}

// TestWindowGoesOn: what was told is in the window no more, and one more number is.
func TestWindowGoesOn(t *testing.T) {
	x := of(t, config(10, 4))
	for n := range 3000 {
		wantRefused(t, x, one((n+4)%1024), api.ErrWindow)
		wantHear(t, x, one(n%1024), text(n%1024))
		wantRefused(t, x, one(n%1024), api.ErrWindow)
		next := (n + 1) % 1024
		wantNumbers(t, x, next, next, next, 0, 0)
	}
}

func TestTwice(t *testing.T) {
	x := usual(t)
	wantHear(t, x, one(2))
	for _, p := range []amd.Packet{one(2), packet(2, 3, "other"), part(2, 0, 0, false, "t"), part(2, 0, 100, true, "t"), part(2, 0, 1<<15-1, true, "t")} {
		wantAnswered(t, x, p, api.ErrTwice, status.Status{})
		wantTicks(t, x, 3)
		x.Reset()
		wantHear(t, x, one(2))
	}
	wantNumbers(t, x, 0, 0, 3, 3, 4)
	wantHear(t, x, one(0), text(0))
	wantRefused(t, x, one(0), api.ErrWindow) // told, and behind the window
	wantHear(t, x, one(1), texts(1, 2)...)
}

// TestBuffersErrors: of parts that do not go with what is there.
func TestBuffersErrors(t *testing.T) {
	for _, c := range []struct {
		there []amd.Packet
		p     amd.Packet
		want  api.Errno
	}{
		{nil, part(1, 0, api.MaxPDU, false, "a"), api.ErrArg}, // which may be, but ends behind what a buffer has
		{nil, part(1, 0, 1<<15-1, true, "a"), api.ErrArg},
		{nil, part(1, 0, api.MaxPDU-2, true, "abc"), api.ErrArg},
		{[]amd.Packet{part(1, 0, 4, true, "ef")}, part(1, 0, 5, false, "fg"), api.ErrForm},
		{[]amd.Packet{part(1, 0, 4, true, "ef")}, part(1, 0, 2, true, "cd"), api.ErrForm},
		{[]amd.Packet{part(1, 0, 4, true, "ef")}, packet(1, 0, "abcde"), api.ErrForm},
		{[]amd.Packet{part(1, 0, 4, false, "ef")}, part(1, 0, 4, true, "e"), api.ErrForm},
		{[]amd.Packet{part(1, 0, 4, true, "ef")}, part(1, 0, 5, true, "f"), api.ErrTwice},
		{[]amd.Packet{part(1, 0, 1, false, "bc"), part(1, 0, 3, false, "def")}, part(1, 0, 2, false, "cde"), api.ErrTwice},
	} {
		x := usual(t)
		wantHear(t, x, packet(0, 0, "first"), "first")
		for _, p := range c.there {
			wantHear(t, x, p)
		}
		wantAnswered(t, x, c.p, c.want, status.Status{Ack: 1})
	}
}

// TestRefusedWaitsNot: a number that polled in vain is forgotten.
func TestRefusedWaitsNot(t *testing.T) {
	x := usual(t)
	wantHear(t, x, one(1))
	wantRefused(t, x, one(1), api.ErrTwice)
	wantReport(t, x, 0)
	wantTicks(t, x, 3)
	wantHear(t, x, one(0), texts(0, 1)...)
	wantWants(t, x, false)
}

// P26.2: texts

func TestInOrder(t *testing.T) {
	for _, width := range widths {
		x := of(t, config(width, 16))
		wantHear(t, x, packet(0, 1, "ab"))
		wantHear(t, x, packet(1, 3, "cd"))
		wantHear(t, x, packet(2, 2, "ef", "g"), "abcdef", "g")
		wantHear(t, x, packet(4, 2, "no"))
		wantHear(t, x, packet(5, 0, "p", "q"))
		wantHear(t, x, packet(3, 1, "h", "ij", "klm"), "h", "ij", "klmno", "p", "q")
		wantState(t, x, state{numbers: [6]int{6, 6, 6, 5, 0, 0}})
	}
}

// TestNoGap: what the glue holds is not lost, however long the next packet is missing.
func TestNoGap(t *testing.T) {
	x := usual(t)
	wantHear(t, x, packet(0, 1, "ab"))
	wantHear(t, x, packet(2, 3, "ef"))
	wantTicks(t, x, 50)
	wantHear(t, x, packet(3, 2, "gh"))
	wantTicks(t, x, 50)
	wantHear(t, x, packet(1, 3, "cd"), "abcdefgh")
}

// TestParts: in whatever order, and however they overlap, they make their packet.
func TestParts(t *testing.T) {
	const size = 6
	parts := []amd.Packet{ // of the end of a text, ab, of a text, cde, and of the beginning of one, f
		part(0, 2, 0, false, "ab"),
		part(0, 1, 2, false, "cd"),
		part(0, 3, 3, false, "d"),
		part(0, 2, 4, false, "e"),
		part(0, 1, 5, true, "f"),
	}
	each(len(parts), func(order []int) {
		x := usual(t)
		there := map[int]bool{}
		for _, i := range order {
			p := parts[i]
			was := len(there)
			for at := range len(amd.Data(p)) {
				there[p.Offset+at] = true
			}
			switch {
			case was == size:
				wantRefused(t, x, p, api.ErrWindow)
			case was == len(there):
				wantRefused(t, x, p, api.ErrTwice)
			case len(there) == size:
				wantHear(t, x, p, "cde")
			default:
				wantHear(t, x, p)
			}
		}
		wantHear(t, x, packet(1, 2, "g"), "fg")
	})
	x := usual(t)
	wantHear(t, x, part(0, 2, 4, false, "e"))
	wantHear(t, x, packet(0, 3, "ab", "cde", "f"), "cde")
	wantHear(t, x, packet(1, 2, "g"), "fg")
}

// each tells all orders of so many things.
func each(many int, tell func(order []int)) {
	var more func(order []int)
	more = func(order []int) {
		if len(order) == many {
			tell(order)
			return
		}
		for i := range many {
			if !slices.Contains(order, i) {
				more(append(slices.Clone(order), i))
			}
		}
	}
	more(nil)
}

// TestPartsOfSeveral: of several numbers at once.
func TestPartsOfSeveral(t *testing.T) {
	x := usual(t)
	wantHear(t, x, part(2, 2, 3, true, "fg"))
	wantHear(t, x, part(0, 2, 1, true, "b"))
	wantHear(t, x, part(1, 1, 0, false, "c"))
	wantState(t, x, state{numbers: [6]int{0, 0, 3, 3, 4, 0}, held: 4})
	wantHear(t, x, part(2, 1, 0, false, "de"))
	wantHear(t, x, part(0, 1, 0, false, "a"), "ab")
	wantState(t, x, state{numbers: [6]int{1, 1, 3, 3, 4, 0}, held: 5})
	wantHear(t, x, part(2, 3, 2, false, "-"))
	wantHear(t, x, packet(1, 0, "cx"), "cx", "de-fg")
	wantState(t, x, state{numbers: [6]int{3, 3, 3, 3, 0, 0}})
}

// TestTooManyFields: of parts that cut a packet into more fields than one has the glue tells nothing, and goes on.
func TestTooManyFields(t *testing.T) {
	x := usual(t)
	fields := slices.Repeat([]string{"a"}, api.MaxFields)
	wantHear(t, x, part(0, 0, 0, false, fields...))
	x.Hear(part(0, 0, api.MaxFields, true, fields...))
	wantState(t, x, state{numbers: [6]int{1, 1, 1, 1, 0, 0}})
	wantHear(t, x, one(1), text(1))
}

func TestLongTexts(t *testing.T) {
	for _, width := range widths {
		x := of(t, config(width, 16))
		rest := api.MaxPDU - 2 - width/16 - 3*api.MaxSDU - 5 - width/16 // 3 lengths
		fields := slices.Repeat([]string{long(api.MaxSDU)}, 3)
		wantHear(t, x, packet(1, 2, long(api.MaxSDU)[rest:]))
		wantHear(t, x, packet(0, 1, append(fields, long(rest))...), append(fields, long(api.MaxSDU))...)
		wantHear(t, x, packet(2, 0, slices.Repeat([]string{"a"}, api.MaxFields)...), slices.Repeat([]string{"a"}, api.MaxFields)...)
		wantHear(t, x, packet(3, 0, long(api.MaxSDU+1))) // no text has so many bytes
		wantState(t, x, state{numbers: [6]int{4, 4, 4, 2, 0, 0}})
	}
}

func TestWidest(t *testing.T) {
	const size = 1 << 15
	x := of(t, config(16, size))
	for n := size - 1; n > 0; n-- {
		wantHear(t, x, packet(n, 0, "a"))
	}
	wantState(t, x, state{numbers: [6]int{0, 0, size, size, 4, 0}, held: size - 1})
	l, e := x.Hear(polls(packet(0, 0, "a")))
	if e != api.OK || len(l) != size {
		t.Fatalf("Hear: %d texts, %v", len(l), e)
	}
	wantState(t, x, state{numbers: [6]int{size, size, size, size, 0, 0}, wants: true})
}

// P26.2: the timer of reordering

func TestTimer(t *testing.T) {
	play(t, usual(t),
		step{0, []int{0}, [5]int{1, 1, 1, 0, 0}},
		step{tick, nil, [5]int{1, 1, 1, 0, 0}},
		step{3, nil, [5]int{1, 1, 4, 4, 4}},
		step{tick, nil, [5]int{1, 1, 4, 4, 3}},
		// it runs on, and waits for what it waited for
		step{6, nil, [5]int{1, 1, 7, 4, 3}},
		step{2, nil, [5]int{1, 1, 7, 4, 3}},
		step{tick, nil, [5]int{1, 1, 7, 4, 2}},
		// R is X: it waits anew, as 4 and 5 are missing
		step{1, []int{1, 2, 3}, [5]int{4, 4, 7, 7, 4}},
		step{tick, nil, [5]int{4, 4, 7, 7, 3}},
		step{4, []int{4}, [5]int{5, 5, 7, 7, 3}},
		// R is X, and H: it stops
		step{5, []int{5, 6}, [5]int{7, 7, 7, 7, 0}},
		step{tick, nil, [5]int{7, 7, 7, 7, 0}},
	)
}

// TestPastX: R goes past X, from which on X is further than the window's size.
func TestPastX(t *testing.T) {
	for _, window := range []int{4, 8, 512} {
		play(t, of(t, config(10, window)),
			step{1, nil, [5]int{0, 0, 2, 2, 4}},
			step{tick, nil, [5]int{0, 0, 2, 2, 3}},
			step{2, nil, [5]int{0, 0, 3, 2, 3}},
			step{3, nil, [5]int{0, 0, 4, 2, 3}},
			step{0, []int{0, 1, 2, 3}, [5]int{4, 4, 4, 2, 0}},
			step{tick, nil, [5]int{4, 4, 4, 2, 0}},
		)
		play(t, of(t, config(10, window)),
			step{1, nil, [5]int{0, 0, 2, 2, 4}},
			step{tick, nil, [5]int{0, 0, 2, 2, 3}},
			step{2, nil, [5]int{0, 0, 3, 2, 3}},
			step{0, []int{0, 1, 2}, [5]int{3, 3, 3, 2, 0}},
			step{6, nil, [5]int{3, 3, 7, 7, 4}},
		)
	}
}

// TestWindowsEnd: X is as far as the window's size, and no further: the timer runs on.
func TestWindowsEnd(t *testing.T) {
	for _, width := range widths {
		for _, window := range []int{2, 5, 1 << width / 2} {
			x := of(t, config(width, window))
			play(t, x,
				step{window - 1, nil, [5]int{0, 0, window, window, 4}},
				step{tick, nil, [5]int{0, 0, window, window, 3}},
			)
			wantHear(t, x, part(0, 0, 1, true, "a"))
			wantNumbers(t, x, 0, 0, window, window, 3)
		}
	}
}

// TestAnew: the timer stops, and starts at once, as more is missing.
func TestAnew(t *testing.T) {
	x := usual(t)
	play(t, x,
		step{1, nil, [5]int{0, 0, 2, 2, 4}},
		step{3, nil, [5]int{0, 0, 4, 2, 4}},
		step{tick, nil, [5]int{0, 0, 4, 2, 3}},
		step{0, []int{0, 1}, [5]int{2, 2, 4, 4, 4}},
		step{tick, nil, [5]int{2, 2, 4, 4, 3}},
	)
	wantHear(t, x, part(4, 0, 0, false, "a"))
	wantNumbers(t, x, 2, 2, 5, 4, 3)
}

// TestPartStarts: of a part that came the rest is missing, too.
func TestPartStarts(t *testing.T) {
	x := usual(t)
	wantHear(t, x, part(0, 1, 0, false, "a"))
	wantNumbers(t, x, 0, 0, 1, 1, 4)
	wantHear(t, x, part(0, 2, 1, true, "b"), "ab")
	wantNumbers(t, x, 1, 1, 1, 1, 0)
}

func TestTimerGoesRound(t *testing.T) {
	x := usual(t)
	for n := range 1022 {
		wantHear(t, x, one(n), text(n))
	}
	play(t, x,
		step{1, nil, [5]int{1022, 1022, 2, 2, 4}},
		step{tick, nil, [5]int{1022, 1022, 2, 2, 3}},
		step{1022, []int{1022}, [5]int{1023, 1023, 2, 2, 3}},
		step{1023, []int{1023}, [5]int{0, 0, 2, 2, 3}},
		step{4, nil, [5]int{0, 0, 5, 2, 3}},
		step{0, []int{0, 1}, [5]int{2, 2, 5, 5, 4}},
		step{3, nil, [5]int{2, 2, 5, 5, 4}},
		step{2, []int{2, 3, 4}, [5]int{5, 5, 5, 5, 0}},
	)
}

// P26.2: polls

func TestExample(t *testing.T) {
	x := usual(t)
	wantHear(t, x, polls(one(1)))
	wantWants(t, x, false)
	wantNoReport(t, x, api.MaxGrant, api.ErrNone)
	wantHear(t, x, one(0), texts(0, 1)...)
	wantWants(t, x, true)
	wantReport(t, x, 2)
}

// TestPollInOrder: what is told at once waits no more.
func TestPollInOrder(t *testing.T) {
	for _, width := range widths {
		x := of(t, config(width, 1))
		wantHear(t, x, polls(one(0)), text(0))
		wantState(t, x, state{numbers: [6]int{1, 1, 1, 0, 0, 0}, wants: true})
		wantReport(t, x, 1)
		wantTicks(t, x, 3)
		wantHear(t, x, one(1), text(1))
		wantWants(t, x, false)
		wantHear(t, x, polls(one(2)), text(2))
		wantReport(t, x, 3)
	}
}

// TestPollWaits: till a status tells of it.
func TestPollWaits(t *testing.T) {
	x := usual(t)
	wantHear(t, x, polls(one(2)))
	wantHear(t, x, polls(one(4)))
	wantHear(t, x, one(0), text(0))
	wantWants(t, x, false)
	wantHear(t, x, one(1), texts(1, 2)...)
	wantReport(t, x, 3)
	wantTicks(t, x, 3)
	wantHear(t, x, one(5))
	wantWants(t, x, false) // 2 waits no more
	wantHear(t, x, one(3), texts(3, 4, 5)...)
	wantReport(t, x, 6)
	wantTicks(t, x, 3)
	wantHear(t, x, one(6), text(6))
	wantWants(t, x, false)
}

// TestPollOfAPart: it waits, though not all of it came.
func TestPollOfAPart(t *testing.T) {
	x := usual(t)
	wantHear(t, x, polls(part(0, 1, 0, false, "ab")))
	wantWants(t, x, false)
	wantHear(t, x, part(0, 2, 3, true, "d"))
	wantWants(t, x, false)
	wantHear(t, x, part(0, 3, 2, false, "c"), "abcd")
	wantReport(t, x, 1)
}

// TestPollAheadOfMS: what is missing is told up to MS, so that a number ahead of it waits for nothing.
func TestPollAheadOfMS(t *testing.T) {
	c := config(10, 16)
	c.Prohibit = 0
	x := of(t, c)
	wantHear(t, x, one(5))
	wantTicks(t, x, 4)
	wantReport(t, x, 6, alls(0, 5)...)
	wantNumbers(t, x, 0, 6, 6, 6, 0)
	wantHear(t, x, polls(part(4, 0, 0, false, "a")))
	misses := append(alls(0, 4), some(4, 1, 0))
	wantReport(t, x, 6, misses...)
	wantHear(t, x, polls(one(6))) // MS is behind it, as it is whole
	wantReport(t, x, 7, misses...)
	wantHear(t, x, polls(part(7, 0, 0, false, "a"))) // MS it is, so that it waits
	wantHear(t, x, polls(one(8)))
	wantWants(t, x, false)
	wantHear(t, x, part(7, 0, 1, true, "b"))
	wantReport(t, x, 9, misses...)
	wantHear(t, x, one(9))
	wantWants(t, x, false)
}

// alls is misses of all of numbers, ahead of another one.
func alls(from, to int) []status.Miss {
	var l []status.Miss
	for sn := from; sn < to; sn++ {
		l = append(l, all(sn))
	}
	return l
}

// TestPollGoesRound: how far is meant from R.
func TestPollGoesRound(t *testing.T) {
	x := usual(t)
	for n := range 1022 {
		wantHear(t, x, one(n), text(n))
	}
	wantHear(t, x, polls(one(0)))
	wantHear(t, x, polls(one(1023)))
	wantWants(t, x, false)
	wantHear(t, x, one(1022), texts(1022, 1023, 0)...)
	wantReport(t, x, 1)
	wantTicks(t, x, 3)
	wantHear(t, x, one(2))
	wantWants(t, x, false)
}

// P26.3

func TestTickEnds(t *testing.T) {
	for _, reorder := range []int{1, 2, 7, api.MaxTicks} {
		c := config(10, 16)
		c.Reorder = reorder
		x := of(t, c)
		wantHear(t, x, one(1))
		for left := reorder; left > 0; left-- {
			wantState(t, x, state{numbers: [6]int{0, 0, 2, 2, left, 0}, held: 5})
			x.Tick()
		}
		wantState(t, x, state{numbers: [6]int{0, 2, 2, 2, 0, 0}, held: 5, wants: true})
		wantTicks(t, x, 20)
		wantState(t, x, state{numbers: [6]int{0, 2, 2, 2, 0, 0}, held: 5, wants: true})
		wantReport(t, x, 2, all(0))
	}
}

// TestTickStartsAnew: more came behind X, so that it waits for that.
func TestTickStartsAnew(t *testing.T) {
	x := usual(t)
	play(t, x,
		step{1, nil, [5]int{0, 0, 2, 2, 4}},
		step{tick, nil, [5]int{0, 0, 2, 2, 3}},
		step{4, nil, [5]int{0, 0, 5, 2, 3}},
		step{tick, nil, [5]int{0, 0, 5, 2, 2}},
		step{tick, nil, [5]int{0, 0, 5, 2, 1}},
		step{tick, nil, [5]int{0, 2, 5, 5, 4}},
	)
	wantReport(t, x, 2, all(0))
	play(t, x,
		step{7, nil, [5]int{0, 2, 8, 5, 4}},
		step{tick, nil, [5]int{0, 2, 8, 5, 3}},
		step{tick, nil, [5]int{0, 2, 8, 5, 2}},
		step{tick, nil, [5]int{0, 2, 8, 5, 1}},
	)
	wantWants(t, x, false)
	play(t, x, step{tick, nil, [5]int{0, 5, 8, 8, 4}})
	wantReport(t, x, 5, all(0), all(2), all(3))
	play(t, x,
		step{tick, nil, [5]int{0, 5, 8, 8, 3}},
		step{tick, nil, [5]int{0, 5, 8, 8, 2}},
		step{tick, nil, [5]int{0, 5, 8, 8, 1}},
		step{tick, nil, [5]int{0, 8, 8, 8, 0}},
	)
	wantReport(t, x, 8, all(0), all(2), all(3), all(5), all(6))
}

// TestTickGoesRound: how far is meant from R.
func TestTickGoesRound(t *testing.T) {
	x := usual(t)
	for n := range 1018 {
		wantHear(t, x, one(n), text(n))
	}
	play(t, x,
		step{1020, nil, [5]int{1018, 1018, 1021, 1021, 4}},
		step{tick, nil, [5]int{1018, 1018, 1021, 1021, 3}},
		step{2, nil, [5]int{1018, 1018, 3, 1021, 3}},
		step{tick, nil, [5]int{1018, 1018, 3, 1021, 2}},
		step{tick, nil, [5]int{1018, 1018, 3, 1021, 1}},
		step{tick, nil, [5]int{1018, 1021, 3, 3, 4}},
	)
	wantReport(t, x, 1021, all(1018), all(1019))
	wantTicks(t, x, 4)
	wantNumbers(t, x, 1018, 3, 3, 3, 0)
	wantReport(t, x, 3, all(1018), all(1019), all(1021), all(1022), all(1023), all(0), all(1))
}

// TestTickUpToH: all behind X came, so that nothing is left to wait for.
func TestTickUpToH(t *testing.T) {
	play(t, usual(t),
		step{1, nil, [5]int{0, 0, 2, 2, 4}},
		step{2, nil, [5]int{0, 0, 3, 2, 4}},
		step{3, nil, [5]int{0, 0, 4, 2, 4}},
		step{tick, nil, [5]int{0, 0, 4, 2, 3}},
		step{tick, nil, [5]int{0, 0, 4, 2, 2}},
		step{tick, nil, [5]int{0, 0, 4, 2, 1}},
		step{tick, nil, [5]int{0, 4, 4, 2, 0}},
		// H is not R: it waits anew
		step{5, nil, [5]int{0, 4, 6, 6, 4}},
	)
}

// TestStartsAgainBehindTheEnd: what is missing still is waited for with the next packet.
func TestStartsAgainBehindTheEnd(t *testing.T) {
	play(t, usual(t),
		step{2, nil, [5]int{0, 0, 3, 3, 4}},
		step{tick, nil, [5]int{0, 0, 3, 3, 3}},
		step{tick, nil, [5]int{0, 0, 3, 3, 2}},
		step{tick, nil, [5]int{0, 0, 3, 3, 1}},
		step{tick, nil, [5]int{0, 3, 3, 3, 0}},
		step{1, nil, [5]int{0, 3, 3, 3, 4}},
		step{0, []int{0, 1, 2}, [5]int{3, 3, 3, 3, 0}},
	)
}

// TestTickWantsAnew: what waits for a status is asked when something comes.
func TestTickWantsAnew(t *testing.T) {
	x := usual(t)
	wantHear(t, x, polls(one(2)))
	wantTicks(t, x, 4)
	wantReport(t, x, 3, all(0), all(1))
	wantTicks(t, x, 3)
	wantWants(t, x, false)
	wantHear(t, x, one(1))
	wantReport(t, x, 3, all(0))
	wantTicks(t, x, 3)
	wantHear(t, x, one(5))
	wantWants(t, x, false)
}

func TestReportErrors(t *testing.T) {
	for _, width := range widths {
		x := of(t, config(width, 16))
		for _, grant := range append(wrongGrants, 0, 1, 2, 3, api.MaxGrant) {
			wantNoReport(t, x, grant, api.ErrNone)
		}
		wantHear(t, x, one(1))
		wantTicks(t, x, 4)
		for _, grant := range wrongGrants {
			wantNoReport(t, x, grant, api.ErrArg)
		}
		for grant := range 2 + width/16 {
			wantNoReport(t, x, grant, api.ErrGrant)
		}
		wantState(t, x, state{numbers: [6]int{0, 2, 2, 2, 0, 0}, held: 5, wants: true})
		if s, e := x.Report(2 + width/16); s.Ack != 0 || len(s.Misses) != 0 || e != api.OK {
			t.Fatalf("Report: %v %v", s, e)
		}
		wantState(t, x, state{numbers: [6]int{0, 2, 2, 2, 0, 3}, held: 5})
		for _, grant := range append(wrongGrants, 0, api.MaxGrant) {
			wantNoReport(t, x, grant, api.ErrNone)
		}
	}
}

// TestReport: what is missing, to a grant.
func TestReport(t *testing.T) {
	for _, width := range widths {
		x := of(t, config(width, 16))
		wantHear(t, x, one(0), text(0))
		wantHear(t, x, part(2, 0, 2, false, "ab"))
		wantHear(t, x, part(2, 0, 6, true, "cd"))
		wantHear(t, x, part(3, 0, 0, false, "e"))
		wantHear(t, x, one(5))
		wantTicks(t, x, 4)
		misses := []status.Miss{all(1), some(2, 0, 2), some(2, 4, 6), some(3, 1, 0), all(4)}
		want := status.Status{Ack: 3, Misses: misses[:3]} // up to where the timer waited
		wantReport(t, x, want.Ack, want.Misses...)
		wantTicks(t, x, 4)
		wantWants(t, x, true)
		full := status.Status{Ack: 6, Misses: misses}
		if s, e := x.Report(status.Size(full, width) - 1); !status.Same(s, status.Status{Ack: 4, Misses: misses[:4]}) || e != api.OK {
			t.Fatalf("Report: %v %v", s, e)
		}
		wantTicks(t, x, 3)
		wantRefused(t, x, one(5), api.ErrTwice)
		if s, e := x.Report(status.Size(full, width)); !status.Same(s, full) || e != api.OK {
			t.Fatalf("Report: %v %v", s, e)
		}
	}
}

// TestProhibit: between two reports there are as many ticks as it says (P26.5).
func TestProhibit(t *testing.T) {
	for _, prohibit := range []int{0, 1, 2, 7, api.MaxTicks} {
		c := config(10, 16)
		c.Prohibit = prohibit
		x := of(t, c)
		for n := range 5 {
			wantHear(t, x, polls(one(n)), text(n))
			for left := x.State()[5]; left > 0; left-- {
				wantState(t, x, state{numbers: [6]int{n + 1, n + 1, n + 1, 0, 0, left}})
				wantNoReport(t, x, api.MaxGrant, api.ErrNone)
				x.Tick()
			}
			wantReport(t, x, n+1)
			wantState(t, x, state{numbers: [6]int{n + 1, n + 1, n + 1, 0, 0, prohibit}})
		}
	}
}

// TestProhibitAlone: that no status may be told does not let it be wanted; and what is wanted meanwhile is so still.
func TestProhibitAlone(t *testing.T) {
	x := usual(t)
	wantHear(t, x, polls(one(0)), text(0))
	wantReport(t, x, 1)
	wantTicks(t, x, 10)
	wantState(t, x, state{numbers: [6]int{1, 1, 1, 0, 0, 0}})
	wantHear(t, x, polls(one(1)), text(1))
	wantReport(t, x, 2)
	wantRefused(t, x, one(0), api.ErrWindow)
	wantTicks(t, x, 2)
	wantWants(t, x, false)
	x.Tick()
	wantReport(t, x, 2)
}

func TestTimersRunSideBySide(t *testing.T) {
	x := usual(t)
	wantHear(t, x, polls(one(0)), text(0))
	wantReport(t, x, 1)
	x.Tick()
	wantHear(t, x, one(2))
	wantState(t, x, state{numbers: [6]int{1, 1, 3, 3, 4, 2}, held: 5})
	x.Tick()
	wantState(t, x, state{numbers: [6]int{1, 1, 3, 3, 3, 1}, held: 5})
	x.Tick()
	wantState(t, x, state{numbers: [6]int{1, 1, 3, 3, 2, 0}, held: 5})
	wantTicks(t, x, 2)
	wantState(t, x, state{numbers: [6]int{1, 3, 3, 3, 0, 0}, held: 5, wants: true})
}

// TestReset: behind it a receiver is as a new one.
func TestReset(t *testing.T) {
	for _, width := range widths {
		x := of(t, config(width, 16))
		wantHear(t, x, packet(0, 1, "ab"))
		wantHear(t, x, polls(one(4)))
		wantHear(t, x, part(2, 0, 0, false, "cd"))
		wantTicks(t, x, 4)
		wantReport(t, x, 5, all(1), some(2, 2, 0), all(3))
		wantHear(t, x, polls(part(2, 0, 4, false, "e")))
		wantHear(t, x, polls(one(7)))
		wantState(t, x, state{numbers: [6]int{1, 5, 8, 5, 4, 3}, held: 13})
		x.Reset()
		wantState(t, x, state{})
		wantTicks(t, x, 10) // no timer runs
		wantState(t, x, state{})
		wantNoReport(t, x, api.MaxGrant, api.ErrNone)
		wantRefused(t, x, one(16), api.ErrWindow)
		x.Reset()
		wantState(t, x, state{})
		// nothing of a text is held, no number is whole, of none there is a piece, and none waits
		wantHear(t, x, packet(0, 2, "f", "g"), "g")
		wantHear(t, x, part(2, 1, 0, false, "xy"))
		wantHear(t, x, one(4))
		wantHear(t, x, one(1), text(1))
		wantState(t, x, state{numbers: [6]int{2, 2, 5, 3, 4, 0}, held: 7})
		wantHear(t, x, part(2, 2, 2, true, "z"), "xyz")
		wantHear(t, x, one(3), texts(3, 4)...)
		wantWants(t, x, false)
	}
}

// rules 4 and 5 of the document

func TestWhatIsHandedInIsNotKept(t *testing.T) {
	x := usual(t)
	for _, p := range []amd.Packet{polls(packet(1, 1, "ab", "cd")), part(2, 2, 2, true, "gh", "ij"), part(2, 3, 0, false, "ef")} {
		was := polls(packet(p.SN, p.FI, string(p.Fields[0]), string(p.Fields[len(p.Fields)-1])))
		wantHear(t, x, p)
		for i, field := range p.Fields {
			if !bytes.Equal(field, was.Fields[min(i, len(was.Fields)-1)]) {
				t.Errorf("handed in: %s", shown(p))
			}
			for j := range field {
				field[j] = '?'
			}
		}
	}
	wantHear(t, x, packet(0, 0, "z"), "z", "ab", "cdefgh", "ij")
}

func TestWhatIsHandedOutIsNewMemory(t *testing.T) {
	x := usual(t)
	wantHear(t, x, packet(1, 2, "cd", "ef", "gh"))
	wantHear(t, x, packet(2, 1, "ij", "kl"))
	l, e := x.Hear(packet(0, 1, "ab"))
	if e != api.OK || !same(l, []string{"abcd", "ef", "gh", "ij"}) || cap(l) != len(l) {
		t.Fatalf("Hear: %q %v, room for %d", l, e, cap(l))
	}
	for i, b := range l {
		if cap(b) != len(b) {
			t.Errorf("the text %d has room for %d of %d", i, cap(b), len(b))
		}
		clear(b)
		l[i] = append(b[:0], long(50)...)
	}
	wantHear(t, x, packet(3, 2, "mn", "op"), "klmn", "op")
	wantHear(t, x, polls(one(5)))
	wantTicks(t, x, 4)
	s, _ := x.Report(api.MaxGrant)
	clear(s.Misses)
	wantTicks(t, x, 3)
	wantRefused(t, x, one(0), api.ErrWindow)
	wantReport(t, x, 6, all(4))
}

func TestReceiversAreTheirOwn(t *testing.T) {
	a, b := usual(t), usual(t)
	wantHear(t, a, polls(one(1)))
	wantState(t, b, state{})
	wantHear(t, b, packet(0, 1, "ab"))
	wantHear(t, a, packet(0, 2, "cd"), text(1))
	wantReport(t, a, 2)
	wantTicks(t, b, 5)
	wantState(t, a, state{numbers: [6]int{2, 2, 2, 2, 0, 3}})
	a.Reset()
	wantHear(t, b, packet(1, 2, "cd"), "abcd")
	wantState(t, b, state{numbers: [6]int{2, 2, 2, 0, 0, 0}})
}
