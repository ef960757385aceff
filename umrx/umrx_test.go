package umrx_test

import (
	"bytes"
	"math"
	"math/rand"
	"reflect"
	"slices"
	"strconv"
	"strings"
	"testing"

	"bowline/api"
	"bowline/glue"
	"bowline/pdu"
	"bowline/umd"
	"bowline/umrx"
	"bowline/umtx"
)

var widths = []int{5, 10}

// config is one that may be, with numbers of so many bits.
func config(width, window, reorder int) api.Config {
	return api.Config{Mode: api.UM, Bits: width, Window: window, Reorder: reorder, QueueBytes: api.MaxBytes}
}

// of is a receiver with a window, whose timer starts with four ticks.
func of(t *testing.T, width, window int) *umrx.Receiver {
	t.Helper()
	x, e := umrx.New(config(width, window, 4))
	if x == nil || e != api.OK {
		t.Fatalf("New: %v", e)
	}
	return x
}

// packet is a packet's bytes.
func packet(t *testing.T, width, sn, fi int, fields ...string) []byte {
	t.Helper()
	p := umd.Packet{FI: fi, SN: sn}
	for _, field := range fields {
		p.Fields = append(p.Fields, []byte(field))
	}
	b, e := umd.Write(p, width)
	if e != api.OK {
		t.Fatalf("no packet: %d, FI %d, %d fields, of %d bits: %v", sn, fi, len(fields), width, e)
	}
	return b
}

// text is what the whole packet of a number tells.
func text(sn int) string { return "text" + strconv.Itoa(sn) }

// texts is what the whole packets of some numbers tell.
func texts(numbers ...int) []string {
	var l []string
	for _, n := range numbers {
		l = append(l, text(n))
	}
	return l
}

// long is a field of so many bytes.
func long(n int) string { return strings.Repeat("0123456789", n/10+1)[:n] }

func same(a [][]byte, b []string) bool {
	return slices.EqualFunc(a, b, func(a []byte, b string) bool { return string(a) == b })
}

// state is what there is to ask of a receiver.
type state struct {
	numbers   [4]int
	held      []int
	lost, bad int
}

func stateOf(x *umrx.Receiver) state { return state{x.State(), x.Held(), x.Lost(), x.Bad()} }

func (a state) is(b state) bool {
	return a.numbers == b.numbers && slices.Equal(a.held, b.held) && a.lost == b.lost && a.bad == b.bad
}

func wantState(t *testing.T, x *umrx.Receiver, want state) {
	t.Helper()
	if s := stateOf(x); !s.is(want) {
		t.Fatalf("state %+v, want %+v", s, want)
	}
}

// wantHear holds what is told of a packet that is held against texts.
func wantHear(t *testing.T, x *umrx.Receiver, b []byte, want ...string) {
	t.Helper()
	if l, e := x.Hear(b); e != api.OK || !same(l, want) {
		t.Fatalf("Hear(%.10x): %.60q %v, want %.60q; %+v", b, l, e, want, stateOf(x))
	}
}

// wantRefused holds that bytes are refused, and change nothing but, perhaps, a count.
func wantRefused(t *testing.T, x *umrx.Receiver, b []byte, want api.Errno, bad int) {
	t.Helper()
	before := stateOf(x)
	if l, e := x.Hear(b); e != want || len(l) != 0 {
		t.Fatalf("Hear(%.10x): %q %v, want %v; %+v", b, l, e, want, before)
	}
	before.bad += bad
	wantState(t, x, before)
}

func wantTick(t *testing.T, x *umrx.Receiver, want ...string) {
	t.Helper()
	if l := x.Tick(); !same(l, want) {
		t.Fatalf("Tick: %q, want %q; %+v", l, want, stateOf(x))
	}
}

func wantReset(t *testing.T, x *umrx.Receiver, want ...string) {
	t.Helper()
	lost, bad := x.Lost(), x.Bad()
	if l := x.Reset(); !same(l, want) {
		t.Fatalf("Reset: %q, want %q", l, want)
	}
	wantState(t, x, state{lost: lost, bad: bad})
}

func wantNoNew(t *testing.T, c api.Config, want api.Errno) {
	t.Helper()
	if x, e := umrx.New(c); x != nil || e != want {
		t.Fatalf("New(%+v): %v %v, want %v", c, x != nil, e, want)
	}
}

const tick = -1

// step is a tick, or the whole packet of a number, and what comes of it.
type step struct {
	n       int
	told    []int
	numbers [4]int
	held    []int
}

func play(t *testing.T, x *umrx.Receiver, width int, steps ...step) {
	t.Helper()
	for _, s := range steps {
		if s.n == tick {
			wantTick(t, x, texts(s.told...)...)
		} else {
			wantHear(t, x, packet(t, width, s.n, 0, text(s.n)), texts(s.told...)...)
		}
		wantState(t, x, state{numbers: s.numbers, held: s.held})
	}
}

// P17.1

func TestNew(t *testing.T) {
	for _, width := range widths {
		for _, window := range []int{1, 2, 1 << width / 2} {
			for _, reorder := range []int{1, 4, api.MaxTicks} {
				x, e := umrx.New(config(width, window, reorder))
				if x == nil || e != api.OK {
					t.Fatalf("New: %v", e)
				}
				wantState(t, x, state{})
				wantTick(t, x)
				wantReset(t, x)
			}
		}
	}
	if x, e := umrx.New(pdu.Usual(api.UM)); x == nil || e != api.OK {
		t.Errorf("New of what is usual: %v", e)
	}
}

func TestNewOfOtherModes(t *testing.T) {
	for _, mode := range []int{api.TM, api.AM} {
		c := pdu.Usual(mode)
		wantNoNew(t, c, api.ErrKind)
		// a config that may not be is Check's to refuse, whichever mode it has
		c.QueueBytes = 0
		wantNoNew(t, c, api.ErrArg)
	}
	for _, mode := range []int{-1, 3, math.MinInt, math.MaxInt, 1<<32 + 1} {
		c := config(5, 16, 4)
		c.Mode = mode
		wantNoNew(t, c, api.ErrKind)
		wantNoNew(t, api.Config{Mode: mode}, api.ErrKind)
	}
}

func TestNewOfWrongConfigs(t *testing.T) {
	for _, width := range []int{-5, 0, 1, 4, 6, 9, 11, 16, 1<<32 + 5, math.MinInt, math.MaxInt} {
		wantNoNew(t, config(width, 1, 4), api.ErrArg)
	}
	for _, width := range widths {
		for _, window := range []int{0, -1, 1<<width/2 + 1, 1 << width, math.MinInt, math.MaxInt} {
			wantNoNew(t, config(width, window, 4), api.ErrArg)
		}
		for _, reorder := range []int{0, -1, api.MaxTicks + 1, math.MinInt, math.MaxInt} {
			wantNoNew(t, config(width, 1, reorder), api.ErrArg)
		}
		for _, room := range []int{0, -1, api.MaxBytes + 1} {
			c := config(width, 1, 4)
			c.QueueBytes = room
			wantNoNew(t, c, api.ErrArg)
		}
		c := config(width, 1, 4)
		c.PollPDU = 1
		wantNoNew(t, c, api.ErrArg)
	}
}

func TestNoReceiver(t *testing.T) {
	for _, x := range []*umrx.Receiver{nil, {}} {
		for range 2 {
			for _, b := range [][]byte{nil, {}, {0}, {3, 'a'}, packet(t, 10, 1000, 0, "ab"), make([]byte, api.MaxPDU+1)} {
				wantRefused(t, x, b, api.ErrNil, 0)
			}
			for range 3 {
				wantTick(t, x)
			}
			wantReset(t, x)
			wantState(t, x, state{})
		}
	}
}

func TestCalls(t *testing.T) {
	var names []string
	for m := range reflect.TypeFor[*umrx.Receiver]().Methods() {
		names = append(names, m.Name)
	}
	if want := []string{"Bad", "Hear", "Held", "Lost", "Reset", "State", "Tick"}; !slices.Equal(names, want) {
		t.Errorf("the calls %v, want %v", names, want)
	}
}

// TestLost: what comes behind a gap is no more the end of what was begun ahead of it.
func TestLost(t *testing.T) {
	for _, width := range widths {
		x := of(t, width, 16)
		wantHear(t, x, packet(t, width, 0, 1, "ab"))
		wantHear(t, x, packet(t, width, 1, 2, "cd"), "abcd")
		wantHear(t, x, packet(t, width, 2, 1, "ef", "gh"), "ef")
		wantHear(t, x, packet(t, width, 4, 2, "ij", "kl")) // the packet 3 is missing
		wantState(t, x, state{[4]int{3, 5, 5, 4}, []int{4}, 0, 0})
		for range 3 {
			wantTick(t, x)
		}
		wantTick(t, x, "kl") // gh and ij are lost
		wantState(t, x, state{[4]int{5, 5, 5, 0}, nil, 2, 0})
		wantHear(t, x, packet(t, width, 5, 2, "mn", "op"), "op")
		wantState(t, x, state{[4]int{6, 5, 6, 0}, nil, 3, 0})
	}
}

// P17.2: bytes that are no packet

func TestBad(t *testing.T) {
	noughts := packet(t, 10, 1, 0, "ab")
	cases := []struct {
		width int
		b     []byte
		want  api.Errno
	}{
		{5, nil, api.ErrShort},
		{10, nil, api.ErrShort},
		{10, []byte{0}, api.ErrShort},
		{5, []byte{1}, api.ErrShort},     // no field
		{10, []byte{0, 1}, api.ErrShort}, // no field
		{5, make([]byte, api.MaxPDU+1), api.ErrLong},
		{10, bytes.Repeat([]byte{255}, api.MaxPDU+1), api.ErrLong},
		{10, append([]byte{noughts[0] | 0x80}, noughts[1:]...), api.ErrForm},
		{10, append([]byte{noughts[0] | 0x20}, noughts[1:]...), api.ErrForm},
		{5, []byte{0x21}, api.ErrShort},                                          // lengths are missing
		{5, []byte{0x21, 0, 0x10, 'a'}, api.ErrShort},                            // the last field is missing
		{5, []byte{0x21, 0, 0x20, 'a'}, api.ErrShort},                            // of the first field a byte is missing
		{5, []byte{0x21, 0, 0x00, 'a', 'b'}, api.ErrForm},                        // a length of 0
		{5, []byte{0x21, 0, 0x11, 'a', 'b'}, api.ErrForm},                        // what fills up is not noughts
		{5, append([]byte{0x21}, bytes.Repeat([]byte{255}, 60)...), api.ErrLong}, // too many lengths
	}
	for _, c := range cases {
		x := of(t, c.width, 16)
		wantRefused(t, x, c.b, c.want, 1)
		wantHear(t, x, packet(t, c.width, 0, 1, "a"))
		wantHear(t, x, packet(t, c.width, 2, 0, "c"))
		for range 3 {
			wantTick(t, x)
			wantRefused(t, x, c.b, c.want, 1) // the timer runs on
		}
		wantHear(t, x, packet(t, c.width, 1, 2, "b"), "ab", "c")
		wantReset(t, x)
		wantRefused(t, x, c.b, c.want, 1)
		wantState(t, x, state{bad: 5})
	}
}

// TestOthersAreNotBad: a packet that comes too late, or twice, is a packet.
func TestOthersAreNotBad(t *testing.T) {
	x := of(t, 5, 16)
	wantHear(t, x, packet(t, 5, 1, 0, "b"))
	wantRefused(t, x, packet(t, 5, 1, 0, "b"), api.ErrTwice, 0)
	wantRefused(t, x, packet(t, 5, 31, 0, "z"), api.ErrOld, 0)
	wantState(t, x, state{[4]int{0, 2, 2, 4}, []int{1}, 0, 0})
}

// P17.2: packets

func TestExample(t *testing.T) {
	x := of(t, 5, 16)
	play(t, x, 5,
		step{1, nil, [4]int{0, 2, 2, 4}, []int{1}},
		step{0, []int{0, 1}, [4]int{2, 2, 2, 0}, nil},
	)
}

// TestEachFirst: which numbers may come first, and what is waited for then.
func TestEachFirst(t *testing.T) {
	for _, width := range widths {
		size := 1 << width
		for _, window := range []int{1, 2, 3, size/4 - 1, size / 4, size/2 - 1, size / 2} {
			for n := range size {
				x, b := of(t, width, window), packet(t, width, n, 0, text(n))
				if n >= size-window {
					wantRefused(t, x, b, api.ErrOld, 0)
					wantState(t, x, state{})
					continue
				}
				want := state{numbers: [4]int{0, n + 1, n + 1, 4}, held: []int{n}}
				if n >= window {
					want.numbers[0] = n + 1 - window
				}
				if want.numbers[0] == n {
					wantHear(t, x, b, text(n))
					want = state{numbers: [4]int{n + 1, 0, n + 1, 0}}
				} else {
					wantHear(t, x, b)
				}
				wantState(t, x, want)
			}
		}
	}
}

// TestOldAndTwice: each number of a window, of which some came.
func TestOldAndTwice(t *testing.T) {
	x := of(t, 5, 8)
	for _, n := range []int{0, 1, 2, 4, 6} {
		if _, e := x.Hear(packet(t, 5, n, 0, text(n))); e != api.OK {
			t.Fatalf("Hear(%d): %v", n, e)
		}
	}
	want := state{numbers: [4]int{3, 5, 7, 4}, held: []int{4, 6}}
	wantState(t, x, want)
	for n, e := range map[int]api.Errno{
		31: api.ErrOld, 0: api.ErrOld, 1: api.ErrOld, 2: api.ErrOld,
		4: api.ErrTwice, 6: api.ErrTwice,
	} {
		for _, fi := range []int{0, 1, 2, 3} {
			wantRefused(t, x, packet(t, 5, n, fi, "other"), e, 0)
		}
	}
	play(t, x, 5,
		step{5, nil, [4]int{3, 5, 7, 4}, []int{4, 5, 6}},
		step{30, []int{4, 5, 6}, [4]int{23, 31, 31, 4}, []int{30}}, // the number behind the window is the least that is not old
	)
}

// TestTheFirstOfTheWindow: the base is in the window, the number ahead of it is not.
func TestTheFirstOfTheWindow(t *testing.T) {
	for _, width := range widths {
		size := 1 << width
		window := size / 4
		base := 3 * size / 4 // UH is 0 at first
		for _, n := range []int{base, size - 1} {
			wantRefused(t, of(t, width, window), packet(t, width, n, 0, "a"), api.ErrOld, 0)
		}
		n := base - 1
		play(t, of(t, width, window), width, step{n, nil, [4]int{n + 1 - window, base, base, 4}, []int{n}})
	}
}

func TestFilled(t *testing.T) {
	play(t, of(t, 5, 16), 5,
		step{0, []int{0}, [4]int{1, 0, 1, 0}, nil},
		step{3, nil, [4]int{1, 4, 4, 4}, []int{3}},
		step{5, nil, [4]int{1, 4, 6, 4}, []int{3, 5}},
		step{2, nil, [4]int{1, 4, 6, 4}, []int{2, 3, 5}},
		step{tick, nil, [4]int{1, 4, 6, 3}, []int{2, 3, 5}},
		// up to 4 all are there: it waits for 4 anew
		step{1, []int{1, 2, 3}, [4]int{4, 6, 6, 4}, []int{5}},
		step{tick, nil, [4]int{4, 6, 6, 3}, []int{5}},
		step{4, []int{4, 5}, [4]int{6, 6, 6, 0}, nil},
		step{tick, nil, [4]int{6, 6, 6, 0}, nil},
	)
}

// TestTimerRunsOn: what comes ahead of UX, but does not lead up to it, lets the timer run.
func TestTimerRunsOn(t *testing.T) {
	play(t, of(t, 5, 16), 5,
		step{4, nil, [4]int{0, 5, 5, 4}, []int{4}},
		step{tick, nil, [4]int{0, 5, 5, 3}, []int{4}},
		step{0, []int{0}, [4]int{1, 5, 5, 3}, []int{4}},
		step{1, []int{1}, [4]int{2, 5, 5, 3}, []int{4}},
		step{7, nil, [4]int{2, 5, 8, 3}, []int{4, 7}},
		step{3, nil, [4]int{2, 5, 8, 3}, []int{3, 4, 7}},
		// past UX
		step{5, nil, [4]int{2, 5, 8, 3}, []int{3, 4, 5, 7}},
		step{2, []int{2, 3, 4, 5}, [4]int{6, 8, 8, 4}, []int{7}},
	)
}

// TestSlides: a number behind the window moves it, and what is not in it then is given.
func TestSlides(t *testing.T) {
	play(t, of(t, 5, 16), 5,
		step{1, nil, [4]int{0, 2, 2, 4}, []int{1}},
		step{4, nil, [4]int{0, 2, 5, 4}, []int{1, 4}},
		step{15, nil, [4]int{0, 2, 16, 4}, []int{1, 4, 15}},
		step{tick, nil, [4]int{0, 2, 16, 3}, []int{1, 4, 15}},
		// UR leaves the window, and 1, which is held, is given; UX stays in it
		step{16, []int{1}, [4]int{2, 17, 17, 4}, []int{4, 15, 16}},
		step{tick, nil, [4]int{2, 17, 17, 3}, []int{4, 15, 16}},
		step{17, nil, [4]int{2, 17, 18, 3}, []int{4, 15, 16, 17}},
		step{18, nil, [4]int{3, 17, 19, 3}, []int{4, 15, 16, 17, 18}},
		// UR is 4 then, which is held; 5 is missing
		step{19, []int{4}, [4]int{5, 17, 20, 3}, []int{15, 16, 17, 18, 19}},
		// half of all numbers on: each that is held is out of the window
		step{3, []int{15, 16, 17, 18, 19}, [4]int{20, 4, 4, 4}, []int{3}},
	)
}

// TestUXLeavesTheWindow: neither in it nor UH, UX is waited for no more.
func TestUXLeavesTheWindow(t *testing.T) {
	play(t, of(t, 5, 4), 5,
		step{1, nil, [4]int{0, 2, 2, 4}, []int{1}},
		step{tick, nil, [4]int{0, 2, 2, 3}, []int{1}},
		step{5, []int{1}, [4]int{2, 6, 6, 4}, []int{5}}, // UX is UR
		step{tick, nil, [4]int{2, 6, 6, 3}, []int{5}},
		step{8, []int{5}, [4]int{6, 9, 9, 4}, []int{8}}, // the base is 5, which is held
		step{tick, nil, [4]int{6, 9, 9, 3}, []int{8}},
		step{13, []int{8}, [4]int{10, 14, 14, 4}, []int{13}}, // the base is 10: 9 is not in the window
		step{tick, nil, [4]int{10, 14, 14, 3}, []int{13}},
		step{25, []int{13}, [4]int{22, 26, 26, 4}, []int{25}},
	)
}

// TestUXIsUH: UX is UH, and stays so, as far as what comes is ahead of it.
func TestUXIsUH(t *testing.T) {
	play(t, of(t, 5, 4), 5,
		step{3, nil, [4]int{0, 4, 4, 4}, []int{3}},
		step{tick, nil, [4]int{0, 4, 4, 3}, []int{3}},
		step{2, nil, [4]int{0, 4, 4, 3}, []int{2, 3}},
		step{0, []int{0}, [4]int{1, 4, 4, 3}, []int{2, 3}},
		step{1, []int{1, 2, 3}, [4]int{4, 4, 4, 0}, nil},
	)
}

// TestAheadOfUR: where half of all numbers go by at once, UR may be UH; what came then is ahead of it, and is given when a timer ends.
func TestAheadOfUR(t *testing.T) {
	x := of(t, 5, 16)
	play(t, x, 5,
		step{15, nil, [4]int{0, 16, 16, 4}, []int{15}},
		step{31, []int{15}, [4]int{0, 16, 0, 0}, []int{31}},
		step{tick, nil, [4]int{0, 16, 0, 0}, []int{31}},
	)
	wantRefused(t, x, packet(t, 5, 31, 0, text(31)), api.ErrOld, 0)
	play(t, x, 5,
		step{0, []int{0}, [4]int{1, 16, 1, 0}, []int{31}},
		step{2, nil, [4]int{1, 3, 3, 4}, []int{31, 2}},
		step{tick, nil, [4]int{1, 3, 3, 3}, []int{31, 2}},
		step{tick, nil, [4]int{1, 3, 3, 2}, []int{31, 2}},
		step{tick, nil, [4]int{1, 3, 3, 1}, []int{31, 2}},
		step{tick, []int{31, 2}, [4]int{3, 3, 3, 0}, nil},
	)
}

// TestLeastWindow: of one number each packet is given as it comes, if it is not old.
func TestLeastWindow(t *testing.T) {
	play(t, of(t, 5, 1), 5,
		step{0, []int{0}, [4]int{1, 0, 1, 0}, nil},
		step{3, []int{3}, [4]int{4, 0, 4, 0}, nil},
		step{2, []int{2}, [4]int{3, 0, 3, 0}, nil}, // not in the window: it is far ahead
		step{30, []int{30}, [4]int{31, 0, 31, 0}, nil},
		step{31, []int{31}, [4]int{0, 0, 0, 0}, nil},
	)
	x := of(t, 5, 1)
	play(t, x, 5, step{7, []int{7}, [4]int{8, 0, 8, 0}, nil})
	wantRefused(t, x, packet(t, 5, 7, 0, "a"), api.ErrOld, 0)
}

func TestNumbersGoRound(t *testing.T) {
	for _, width := range widths {
		size := 1 << width
		x := of(t, width, size/2)
		for i := range 3*size + 1 {
			n := i % size
			text := "round " + strconv.Itoa(i)
			cut := len(text) / 2
			// a text begins in one packet and ends in the next one, the last number and 0 among them
			if i%2 == 1 {
				wantHear(t, x, packet(t, width, n, 1, text[:cut]))
			} else if i > 0 {
				text = "round " + strconv.Itoa(i-1)
				wantHear(t, x, packet(t, width, n, 2, text[len(text)/2:]), text)
			} else {
				wantHear(t, x, packet(t, width, n, 0, text), text)
			}
			next := (n + 1) % size
			wantState(t, x, state{numbers: [4]int{next, 0, next, 0}})
		}
	}
}

// TestHeldGoRound: what is held is told from the base on, not from 0.
func TestHeldGoRound(t *testing.T) {
	x := of(t, 5, 16)
	for n := range 30 {
		wantHear(t, x, packet(t, 5, n, 0, text(n)), text(n))
	}
	play(t, x, 5,
		step{1, nil, [4]int{30, 2, 2, 4}, []int{1}},
		step{31, nil, [4]int{30, 2, 2, 4}, []int{31, 1}},
		step{3, nil, [4]int{30, 2, 4, 4}, []int{31, 1, 3}},
		step{30, []int{30, 31}, [4]int{0, 2, 4, 4}, []int{1, 3}},
		step{0, []int{0, 1}, [4]int{2, 4, 4, 4}, []int{3}},
	)
	wantReset(t, x, text(3))
}

// TestGapAtTheSlide: what is given as the window moves has its gaps.
func TestGapAtTheSlide(t *testing.T) {
	x := of(t, 5, 4)
	wantHear(t, x, packet(t, 5, 1, 1, "ab"))
	wantHear(t, x, packet(t, 5, 2, 2, "cd", "ef"))
	wantHear(t, x, packet(t, 5, 3, 1, "gh"))
	wantHear(t, x, packet(t, 5, 10, 2, "ij", "kl"), "abcd", "ef")
	wantState(t, x, state{[4]int{7, 11, 11, 4}, []int{10}, 0, 0})
	wantHear(t, x, packet(t, 5, 7, 3, "mn")) // 4, 5 and 6 are missing: gh is lost, mn passed over
	wantState(t, x, state{[4]int{8, 11, 11, 4}, []int{10}, 1, 0})
	wantHear(t, x, packet(t, 5, 8, 0, "op"), "op")
	wantHear(t, x, packet(t, 5, 9, 1, "qr"), "qrij", "kl")
	wantState(t, x, state{[4]int{11, 11, 11, 0}, nil, 1, 0})
}

// P17.3

func TestTick(t *testing.T) {
	play(t, of(t, 5, 16), 5,
		step{tick, nil, [4]int{}, nil},
		step{1, nil, [4]int{0, 2, 2, 4}, []int{1}},
		step{tick, nil, [4]int{0, 2, 2, 3}, []int{1}},
		step{2, nil, [4]int{0, 2, 3, 3}, []int{1, 2}},
		step{4, nil, [4]int{0, 2, 5, 3}, []int{1, 2, 4}},
		step{6, nil, [4]int{0, 2, 7, 3}, []int{1, 2, 4, 6}},
		step{tick, nil, [4]int{0, 2, 7, 2}, []int{1, 2, 4, 6}},
		step{tick, nil, [4]int{0, 2, 7, 1}, []int{1, 2, 4, 6}},
		// from 2 on the first that is not held is 3
		step{tick, []int{1, 2}, [4]int{3, 7, 7, 4}, []int{4, 6}},
		step{8, nil, [4]int{3, 7, 9, 4}, []int{4, 6, 8}},
		step{tick, nil, [4]int{3, 7, 9, 3}, []int{4, 6, 8}},
		step{tick, nil, [4]int{3, 7, 9, 2}, []int{4, 6, 8}},
		step{tick, nil, [4]int{3, 7, 9, 1}, []int{4, 6, 8}},
		// 7 itself is not held
		step{tick, []int{4, 6}, [4]int{7, 9, 9, 4}, []int{8}},
		step{tick, nil, [4]int{7, 9, 9, 3}, []int{8}},
		step{tick, nil, [4]int{7, 9, 9, 2}, []int{8}},
		step{tick, nil, [4]int{7, 9, 9, 1}, []int{8}},
		// UR is UH: nothing is waited for
		step{tick, []int{8}, [4]int{9, 9, 9, 0}, nil},
		step{tick, nil, [4]int{9, 9, 9, 0}, nil},
	)
}

// TestTickUpToUH: all from UX on is held.
func TestTickUpToUH(t *testing.T) {
	x, e := umrx.New(config(10, 512, 1))
	if e != api.OK {
		t.Fatalf("New: %v", e)
	}
	play(t, x, 10,
		step{1, nil, [4]int{0, 2, 2, 1}, []int{1}},
		step{2, nil, [4]int{0, 2, 3, 1}, []int{1, 2}},
		step{3, nil, [4]int{0, 2, 4, 1}, []int{1, 2, 3}},
		step{tick, []int{1, 2, 3}, [4]int{4, 2, 4, 0}, nil},
	)
	wantRefused(t, x, packet(t, 10, 0, 0, "a"), api.ErrOld, 0)
}

// TestEachReorder: the timer ends with as many ticks as the config says.
func TestEachReorder(t *testing.T) {
	for _, reorder := range []int{1, 2, 7, api.MaxTicks} {
		x, e := umrx.New(config(5, 16, reorder))
		if e != api.OK {
			t.Fatalf("New: %v", e)
		}
		wantHear(t, x, packet(t, 5, 1, 0, "ab"))
		for left := reorder; left > 1; left-- {
			wantState(t, x, state{numbers: [4]int{0, 2, 2, left}, held: []int{1}})
			wantTick(t, x)
		}
		wantTick(t, x, "ab")
		wantState(t, x, state{numbers: [4]int{2, 2, 2, 0}})
	}
}

func TestTickGoesRound(t *testing.T) {
	x := of(t, 5, 16)
	for n := range 31 {
		wantHear(t, x, packet(t, 5, n, 0, text(n)), text(n))
	}
	play(t, x, 5,
		step{2, nil, [4]int{31, 3, 3, 4}, []int{2}},
		step{0, nil, [4]int{31, 3, 3, 4}, []int{0, 2}},
		step{tick, nil, [4]int{31, 3, 3, 3}, []int{0, 2}},
		step{tick, nil, [4]int{31, 3, 3, 2}, []int{0, 2}},
		step{tick, nil, [4]int{31, 3, 3, 1}, []int{0, 2}},
		step{tick, []int{0, 2}, [4]int{3, 3, 3, 0}, nil},
	)
}

func TestReset(t *testing.T) {
	for _, width := range widths {
		x := of(t, width, 16)
		wantRefused(t, x, nil, api.ErrShort, 1)
		wantHear(t, x, packet(t, width, 0, 2, "a"))
		wantHear(t, x, packet(t, width, 5, 0, "f"))
		wantHear(t, x, packet(t, width, 3, 2, "y", "d"))
		wantHear(t, x, packet(t, width, 2, 1, "x"))
		wantHear(t, x, packet(t, width, 7, 1, "g"))
		wantState(t, x, state{[4]int{1, 6, 8, 4}, []int{2, 3, 5, 7}, 1, 1})
		wantReset(t, x, "xy", "d", "f")
		wantState(t, x, state{lost: 1, bad: 1})
		for range 5 {
			wantTick(t, x) // no timer runs
		}
		// g is held no more; what comes is as new, and the counts go on
		wantHear(t, x, packet(t, width, 0, 2, "h", "i"), "i")
		wantState(t, x, state{[4]int{1, 0, 1, 0}, nil, 2, 1})
		wantRefused(t, x, nil, api.ErrShort, 1)
		wantReset(t, x)
		wantReset(t, x)
		wantState(t, x, state{lost: 2, bad: 2})
		wantHear(t, x, packet(t, width, 1, 0, "k"))
		wantHear(t, x, packet(t, width, 0, 0, "j"), "j", "k")
	}
}

// TestResetCountsGaps: what is given by a Reset may be lost by it.
func TestResetCountsGaps(t *testing.T) {
	x := of(t, 5, 16)
	wantHear(t, x, packet(t, 5, 0, 1, "a"))
	wantHear(t, x, packet(t, 5, 2, 2, "b"))
	if l := x.Reset(); len(l) != 0 {
		t.Fatalf("Reset: %q", l)
	}
	wantState(t, x, state{lost: 2})
}

func TestResetGoesRound(t *testing.T) {
	x := of(t, 5, 16)
	for n := range 30 {
		wantHear(t, x, packet(t, 5, n, 0, text(n)), text(n))
	}
	for _, n := range []int{2, 0, 31} {
		wantHear(t, x, packet(t, 5, n, 0, text(n)))
	}
	wantReset(t, x, texts(31, 0, 2)...)
	wantRefused(t, x, packet(t, 5, 31, 0, "a"), api.ErrOld, 0)
}

// model is a receiver that goes word by word by the document.
type model struct {
	size, window, reorder int
	ur, ux, uh, left      int
	held                  map[int]umd.Packet
	glue                  *glue.Glue
	next                  int
	lost                  int // ahead of the last reset
}

func modelOf(c api.Config) *model {
	return &model{size: 1 << c.Bits, window: c.Window, reorder: c.Reorder, held: map[int]umd.Packet{}, glue: glue.New()}
}

func (m *model) base() int { return ((m.uh-m.window)%m.size + m.size) % m.size }

// far counts steps.
func (m *model) far(n int) int {
	steps := 0
	for at := m.base(); at != n; at = (at + 1) % m.size {
		steps++
	}
	return steps
}

func (m *model) in(n int) bool { return m.far(n) < m.window }

// numbers is those of a held packet of which something holds, from a base on.
func (m *model) numbers(base int, holds func(n int) bool) []int {
	var l []int
	for i := range m.size {
		n := (base + i) % m.size
		if _, is := m.held[n]; is && holds(n) {
			l = append(l, n)
		}
	}
	return l
}

func (m *model) all(int) bool { return true }

func (m *model) give(l ...int) [][]byte {
	var told [][]byte
	for _, n := range l {
		texts, _ := m.glue.Put(m.held[n].FI, m.held[n].Fields, n != m.next)
		told = append(told, texts...)
		m.next = (n + 1) % m.size
		delete(m.held, n)
	}
	return told
}

func (m *model) start() {
	if m.left == 0 && m.ur != m.uh {
		m.left, m.ux = m.reorder, m.uh
	}
}

func (m *model) hear(p umd.Packet) ([][]byte, api.Errno) {
	n := p.SN
	if m.in(n) {
		if m.far(n) < m.far(m.ur) {
			return nil, api.ErrOld
		}
		if _, is := m.held[n]; is {
			return nil, api.ErrTwice
		}
	}
	var told [][]byte
	in, base := m.in(n), m.base()
	m.held[n] = p
	if !in {
		m.uh = (n + 1) % m.size
		told = append(told, m.give(m.numbers(base, func(n int) bool { return !m.in(n) })...)...)
		if !m.in(m.ur) && m.ur != m.uh {
			m.ur = m.base()
		}
	}
	for {
		if _, is := m.held[m.ur]; !is {
			break
		}
		told = append(told, m.give(m.ur)...)
		m.ur = (m.ur + 1) % m.size
	}
	if m.left > 0 && (m.far(m.ux) <= m.far(m.ur) || !m.in(m.ux) && m.ux != m.uh) {
		m.left = 0
	}
	m.start()
	return told, api.OK
}

func (m *model) tick() [][]byte {
	if m.left == 0 {
		return nil
	}
	if m.left--; m.left > 0 {
		return nil
	}
	for m.ur = m.ux; ; m.ur = (m.ur + 1) % m.size {
		if _, is := m.held[m.ur]; !is {
			break
		}
	}
	told := m.give(m.numbers(m.base(), func(n int) bool { return m.far(n) < m.far(m.ur) })...)
	m.start()
	return told
}

func (m *model) reset() [][]byte {
	told := m.give(m.numbers(m.base(), m.all)...)
	m.ur, m.ux, m.uh, m.left, m.next = 0, 0, 0, 0, 0
	m.lost += m.glue.Lost()
	m.glue = glue.New()
	return told
}

func (m *model) state() state {
	return state{[4]int{m.ur, m.ux, m.uh, m.left}, m.numbers(m.base(), m.all), m.lost + m.glue.Lost(), 0}
}

// anyPacket is of any number, often of one near those that the receiver reckons with.
func anyPacket(r *rand.Rand, m *model, serial int) umd.Packet {
	spread := []int{1, 2, 4, m.window, m.window + 3, m.size}[r.Intn(6)]
	near := []int{m.ur, m.uh, m.uh - m.window + m.size, m.ux}[r.Intn(4)]
	p := umd.Packet{FI: r.Intn(4), SN: (near + r.Intn(spread)) % m.size}
	for i := range 1 + r.Intn(3) {
		p.Fields = append(p.Fields, []byte(strconv.Itoa(serial)+"."+strconv.Itoa(i)))
	}
	return p
}

// TestModel holds receivers against the document's words, whatever comes.
func TestModel(t *testing.T) {
	for seed := range int64(120) {
		r := rand.New(rand.NewSource(seed))
		width := widths[seed%4/3]
		half := 1 << width / 2
		c := config(width, []int{1, 2, 3, half / 2, half - 1, half}[r.Intn(6)], 1+r.Intn(5))
		x, e := umrx.New(c)
		if e != api.OK {
			t.Fatalf("New: %v", e)
		}
		m := modelOf(c)
		for serial := range 400 {
			var told, want [][]byte
			var e, f api.Errno
			switch what := r.Intn(60); {
			case what == 0:
				told, want = x.Reset(), m.reset()
			case what < 20:
				told, want = x.Tick(), m.tick()
			default:
				p := anyPacket(r, m, serial)
				b, _ := umd.Write(p, width)
				told, e = x.Hear(b)
				want, f = m.hear(p)
			}
			if e != f || !slices.EqualFunc(told, want, bytes.Equal) {
				t.Fatalf("seed %d, step %d: told %q %v, want %q %v", seed, serial, told, e, want, f)
			}
			wantState(t, x, m.state())
		}
	}
}

// P17.4, P17.5

// sentPackets is the packets of a sender of texts, and these, each unlike.
func sentPackets(t *testing.T, r *rand.Rand, c api.Config, many int) ([][]byte, []string) {
	t.Helper()
	x, e := umtx.New(c)
	if e != api.OK {
		t.Fatalf("New: %v", e)
	}
	var packets [][]byte
	var l []string
	for len(packets) < many {
		text := strconv.Itoa(len(l)) + ":" + long(r.Intn(40))
		if _, e := x.Push([]byte(text)); e == api.OK {
			l = append(l, text)
		}
		for x.Bytes() > 100 {
			b, _, e := x.Build(4 + r.Intn(30))
			if e != api.OK {
				t.Fatalf("Build: %v", e)
			}
			packets = append(packets, b)
		}
	}
	for x.Bytes() > 0 {
		b, _, _ := x.Build(50)
		packets = append(packets, b)
	}
	return packets, l
}

// coming is packets as they come, of which some are lost, late, or doubled, but fewer than half a window one behind the other; a late one comes ahead of that which was sent half a window after it.
func coming(r *rand.Rand, packets [][]byte, half int, lose bool) [][]byte {
	type come struct {
		at int
		b  []byte
	}
	var l []come
	run := 0
	for i, b := range packets {
		fate := r.Intn(4)
		run++
		late := i + 1 + r.Intn(max(half-1, 1))
		switch {
		case run >= half || fate == 0:
			run = 0
			l = append(l, come{i, b})
		case fate == 1 && lose:
		case fate == 2:
			run = 0
			l = append(l, come{i, b}, come{late, b})
		default:
			l = append(l, come{late, b})
		}
	}
	slices.SortStableFunc(l, func(a, b come) int { return a.at - b.at })
	var out [][]byte
	for _, one := range l {
		out = append(out, one.b)
	}
	return out
}

// wantSome holds that what was told is some of the texts, in order, each at most once.
func wantSome(t *testing.T, told [][]byte, l []string) {
	t.Helper()
	at := 0
	for _, b := range told {
		i := slices.Index(l[at:], string(b))
		if i < 0 {
			t.Fatalf("told %q, which is none of those behind the text %d", b, at)
		}
		at += i + 1
	}
}

// hearAll lets packets be heard, with ticks in between, and tells what is told.
func hearAll(t *testing.T, x *umrx.Receiver, packets [][]byte, ticks func() int) [][]byte {
	t.Helper()
	var told [][]byte
	for _, b := range packets {
		texts, e := x.Hear(b)
		if e != api.OK && e != api.ErrOld && e != api.ErrTwice {
			t.Fatalf("Hear: %v", e)
		}
		told = append(told, texts...)
		for range ticks() {
			told = append(told, x.Tick()...)
		}
	}
	return told
}

func TestSomeInOrder(t *testing.T) {
	for seed := range int64(150) {
		r := rand.New(rand.NewSource(seed))
		width := widths[seed%2]
		window := []int{2, 4, 1 << width / 4, 1 << width / 2}[r.Intn(4)]
		c := config(width, window, 1+r.Intn(6))
		packets, l := sentPackets(t, r, c, 1<<width+r.Intn(200))
		x, e := umrx.New(c)
		if e != api.OK {
			t.Fatalf("New: %v", e)
		}
		told := hearAll(t, x, coming(r, packets, window/2, true), func() int { return r.Intn(3) / 2 })
		told = append(told, x.Reset()...)
		if len(told) == 0 {
			t.Fatalf("seed %d: nothing was told", seed)
		}
		wantSome(t, told, l)
	}
}

// TestAllInTime: of packets that come late and twice, but none behind the timer's end, all texts are told.
func TestAllInTime(t *testing.T) {
	for seed := range int64(60) {
		r := rand.New(rand.NewSource(seed))
		width := widths[seed%2]
		window := []int{4, 8, 1 << width / 2}[r.Intn(3)]
		c := config(width, window, 4)
		packets, l := sentPackets(t, r, c, 1<<width+r.Intn(200))
		x, _ := umrx.New(c)
		told := hearAll(t, x, coming(r, packets, window/2, false), func() int { return 0 })
		if !same(told, l) || x.Lost() != 0 || len(x.Held()) != 0 {
			t.Fatalf("seed %d: %d texts of %d, %+v", seed, len(told), len(l), stateOf(x))
		}
	}
}

func TestAllOfAll(t *testing.T) {
	for seed := range int64(40) {
		r := rand.New(rand.NewSource(seed))
		width := widths[seed%2]
		c := config(width, 1+r.Intn(1<<width/2), 1+r.Intn(4))
		packets, l := sentPackets(t, r, c, 1<<width+r.Intn(100))
		x, _ := umrx.New(c)
		var told [][]byte
		for i, b := range packets {
			texts, e := x.Hear(b)
			next := (i + 1) % (1 << width)
			if e != api.OK {
				t.Fatalf("Hear(%d): %v", i, e)
			}
			wantState(t, x, state{numbers: [4]int{next, 0, next, 0}})
			told = append(told, texts...)
			for range r.Intn(3) {
				wantTick(t, x)
			}
		}
		if !same(told, l) {
			t.Fatalf("seed %d: %d texts of %d", seed, len(told), len(l))
		}
		wantReset(t, x)
	}
}

// TestLongTexts: the longest packets and texts.
func TestLongTexts(t *testing.T) {
	for _, width := range widths {
		x := of(t, width, 16)
		head := width / 5
		fields := slices.Repeat([]string{long(api.MaxSDU)}, 3)
		rest := api.MaxPDU - head - 5 - 3*api.MaxSDU
		wantHear(t, x, packet(t, width, 1, 2, long(api.MaxSDU)[rest:]))
		wantHear(t, x, packet(t, width, 0, 1, append(fields, long(rest))...), append(fields, long(api.MaxSDU))...)
		wantState(t, x, state{numbers: [4]int{2, 2, 2, 0}})
		wantHear(t, x, packet(t, width, 2, 0, slices.Repeat([]string{"a"}, api.MaxFields)...), slices.Repeat([]string{"a"}, api.MaxFields)...)
		wantHear(t, x, packet(t, width, 3, 0, long(api.MaxSDU+1))) // no text has so many bytes
		wantState(t, x, state{[4]int{4, 2, 4, 0}, nil, 1, 0})
	}
}

// P9 of the document: whatever bytes come

func TestWhateverComes(t *testing.T) {
	for seed := range int64(20) {
		r := rand.New(rand.NewSource(seed))
		width := widths[seed%2]
		x := of(t, width, 1<<width/2)
		for range 500 {
			b := make([]byte, r.Intn(8))
			r.Read(b)
			p, want := umd.Read(b, width)
			if want != api.OK {
				wantRefused(t, x, b, want, 1)
				continue
			}
			before := stateOf(x)
			switch l, e := x.Hear(b); e {
			case api.OK:
			case api.ErrOld, api.ErrTwice:
				if len(l) != 0 || !stateOf(x).is(before) {
					t.Fatalf("Hear of %d: %q %v", p.SN, l, e)
				}
			default:
				t.Fatalf("Hear of %d: %v", p.SN, e)
			}
			if r.Intn(3) == 0 {
				x.Tick()
			}
		}
	}
}

// rules 4 and 5 of the document

func TestWhatIsHandedInIsNotKept(t *testing.T) {
	x := of(t, 5, 16)
	b := packet(t, 5, 1, 0, "ab", "cd")
	was := bytes.Clone(b)
	wantHear(t, x, b)
	if !bytes.Equal(b, was) {
		t.Errorf("handed in: %x, was %x", b, was)
	}
	for i := range b {
		b[i] = 'x'
	}
	wantHear(t, x, packet(t, 5, 0, 0, "z"), "z", "ab", "cd")
}

func TestWhatIsHandedOutIsNewMemory(t *testing.T) {
	x := of(t, 5, 16)
	wantHear(t, x, packet(t, 5, 3, 0, "gh"))
	wantHear(t, x, packet(t, 5, 1, 2, "x", "cd", "ef"))
	held := x.Held()
	if len(held) != 2 || cap(held) != 2 {
		t.Fatalf("Held: %v, room for %d", held, cap(held))
	}
	held[0], held[1] = 7, 8
	wantState(t, x, state{numbers: [4]int{0, 4, 4, 4}, held: []int{1, 3}})
	l, e := x.Hear(packet(t, 5, 0, 1, "ab"))
	if e != api.OK || !same(l, []string{"abx", "cd", "ef"}) || cap(l) != len(l) {
		t.Fatalf("Hear: %q %v, room for %d", l, e, cap(l))
	}
	for i, b := range l {
		if cap(b) != len(b) {
			t.Errorf("the text %d has room for %d of %d", i, cap(b), len(b))
		}
		l[i] = append(append(b[:0], "?"...), long(50)...)
	}
	wantHear(t, x, packet(t, 5, 2, 0, "yz"), "yz", "gh")
}

// TestNoRoomBehind: a list of texts, however it grew, has no room behind its length.
func TestNoRoomBehind(t *testing.T) {
	holds := func() *umrx.Receiver {
		x := of(t, 5, 16)
		for _, n := range []int{5, 1, 2, 3, 4} {
			wantHear(t, x, packet(t, 5, n, 0, text(n)))
		}
		return x
	}
	exact := func(l [][]byte, want ...int) {
		t.Helper()
		if !same(l, texts(want...)) || cap(l) != len(l) {
			t.Errorf("told %q, room for %d, want the texts of %v", l, cap(l), want)
		}
	}
	l, _ := holds().Hear(packet(t, 5, 0, 0, text(0)))
	exact(l, 0, 1, 2, 3, 4, 5)
	l, _ = holds().Hear(packet(t, 5, 20, 0, text(20))) // the window leaves them behind
	exact(l, 1, 2, 3, 4, 5)
	exact(holds().Reset(), 1, 2, 3, 4, 5)
	x := holds()
	for range 3 {
		wantTick(t, x)
	}
	exact(x.Tick(), 1, 2, 3, 4, 5)
}

func TestReceiversAreTheirOwn(t *testing.T) {
	a, b := of(t, 5, 16), of(t, 5, 16)
	wantHear(t, a, packet(t, 5, 1, 0, "b"))
	wantState(t, b, state{})
	wantTick(t, b)
	wantRefused(t, b, nil, api.ErrShort, 1)
	wantState(t, a, state{numbers: [4]int{0, 2, 2, 4}, held: []int{1}})
	wantHear(t, b, packet(t, 5, 0, 1, "c"))
	wantHear(t, a, packet(t, 5, 0, 2, "a"), "b")
	wantState(t, a, state{[4]int{2, 2, 2, 0}, nil, 1, 0})
	wantHear(t, b, packet(t, 5, 1, 2, "d"), "cd")
	wantReset(t, a)
	wantState(t, b, state{[4]int{2, 0, 2, 0}, nil, 0, 1})
}
