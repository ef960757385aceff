package bearer_test

import (
	"bytes"
	"math/rand"
	"slices"
	"strconv"
	"testing"

	"bowline/am"
	"bowline/amd"
	"bowline/api"
	"bowline/bearer"
	"bowline/pdu"
	"bowline/plain"
	"bowline/status"
	"bowline/umd"
	"bowline/umrx"
	"bowline/umtx"
)

// alone is a bearer that stands for itself; of its mode one of tm, ac, or both tx and rx are there.
type alone struct {
	c   api.Config
	tm  *plain.Entity
	tx  *umtx.Sender
	rx  *umrx.Receiver
	ac  *am.Entity
	bad int // of TM
}

func aloneOf(t *testing.T, c api.Config) *alone {
	t.Helper()
	x := &alone{c: c}
	var e, f api.Errno
	switch c.Mode {
	case api.TM:
		x.tm, e = plain.New(c)
	case api.UM:
		x.tx, e = umtx.New(c)
		x.rx, f = umrx.New(c)
	case api.AM:
		x.ac, e = am.New(c)
	}
	if e != api.OK || f != api.OK {
		t.Fatalf("New(%+v): %v %v", c, e, f)
	}
	return x
}

func (x *alone) told() told {
	switch x.c.Mode {
	case api.TM:
		return told{waits: x.tm.Bytes(), bad: x.bad}
	case api.UM:
		return told{waits: x.tx.Bytes(), bad: x.rx.Bad()}
	}
	waits, due := x.ac.Waits()
	return told{waits: waits + due, unsure: x.ac.Unsure(), bad: x.ac.Bad(), failed: x.ac.Failed()}
}

func (x *alone) push(b []byte) (uint64, api.Errno) {
	switch x.c.Mode {
	case api.TM:
		return x.tm.Push(b)
	case api.UM:
		return x.tx.Push(b)
	}
	return x.ac.Push(b)
}

func (x *alone) discard(n uint64) api.Errno {
	switch x.c.Mode {
	case api.TM:
		return x.tm.Discard(n)
	case api.UM:
		return x.tx.Discard(n)
	}
	return x.ac.Discard(n)
}

func (x *alone) build(grant int) (b []byte, e api.Errno) {
	switch x.c.Mode {
	case api.TM:
		b, _, e = x.tm.Build(grant)
	case api.UM:
		b, _, e = x.tx.Build(grant)
	case api.AM:
		b, e = x.ac.Build(grant)
	}
	return b, e
}

func (x *alone) hear(b []byte) ([][]byte, api.Errno) {
	switch x.c.Mode {
	case api.TM:
		text, e := x.tm.Hear(b)
		if e != api.OK {
			x.bad++
			return nil, e
		}
		return [][]byte{text}, api.OK
	case api.UM:
		return x.rx.Hear(b)
	}
	return x.ac.Hear(b)
}

func (x *alone) tick() [][]byte {
	switch x.c.Mode {
	case api.UM:
		return x.rx.Tick()
	case api.AM:
		x.ac.Tick()
	}
	return nil
}

func (x *alone) reset() [][]byte {
	switch x.c.Mode {
	case api.TM:
		x.tm.Reset()
	case api.UM:
		x.tx.Reset()
		return x.rx.Reset()
	case api.AM:
		x.ac.Reset()
	}
	return nil
}

// chance is a config of any mode.
func chance(r *rand.Rand) api.Config {
	c := pdu.Usual(r.Intn(3))
	c.QueueBytes = 1 + r.Intn(300)
	if c.Mode != api.TM {
		c.Window, c.Reorder = 1+r.Intn(16), 1+r.Intn(4)
	}
	if c.Mode == api.AM {
		c.PollRetx, c.Prohibit, c.MaxRetx = 1+r.Intn(6), r.Intn(3), 1+r.Intn(4)
	}
	return c
}

// anyBytes is often what a bearer of a mode hears.
func anyBytes(r *rand.Rand, c api.Config, serial int) []byte {
	fields := [][]byte{[]byte(strconv.Itoa(serial)), []byte("b")}
	var b []byte
	switch what := r.Intn(10); {
	case what == 0:
		b = make([]byte, r.Intn(4))
		r.Read(b)
	case c.Mode == api.TM:
		b = []byte(long(r.Intn(8) * r.Intn(200)))
	case c.Mode == api.UM:
		b, _ = umd.Write(umd.Packet{FI: r.Intn(4), SN: r.Intn(8), Fields: fields}, c.Bits)
	case what < 6:
		b, _ = amd.Write(amd.Packet{Poll: r.Intn(2) == 0, FI: r.Intn(4), SN: r.Intn(8), Fields: fields}, c.Bits)
	default:
		s := status.Status{Ack: r.Intn(4), Misses: []status.Miss{{SN: r.Intn(4)}}}
		b, _ = status.Write(s, c.Bits)
	}
	return b
}

// beside is a table, and the same bearers each for itself.
type beside struct {
	t     *testing.T
	r     *rand.Rand
	x     *bearer.Table
	alone map[int]*alone
}

func (l *beside) add() {
	l.t.Helper()
	id, c := 1+l.r.Intn(12), chance(l.r)
	want := api.OK
	switch {
	case l.alone[id] != nil:
		want = api.ErrTwice
	case len(l.alone) == api.MaxBearers:
		want = api.ErrFull
	default:
		l.alone[id] = aloneOf(l.t, c)
	}
	wantAdd(l.t, l.x, id, c, want)
}

// play is a call of some bearer.
func (l *beside) play(id int, x *alone, serial int) (string, api.Errno) {
	l.t.Helper()
	switch what := l.r.Intn(100); {
	case what < 25:
		text := long(l.r.Intn(40))
		n, e := x.push([]byte(text))
		wantPush(l.t, l.x, id, text, n, e)
		return "push", e
	case what < 35:
		n := uint64(l.r.Intn(12))
		e := x.discard(n)
		wantDiscard(l.t, l.x, id, n, e)
		return "discard", e
	case what < 60:
		grant := []int{-1, 0, 2, 3, 5, 8, 20, 100, api.MaxGrant, api.MaxGrant + 1}[l.r.Intn(10)]
		want, e := x.build(grant)
		if b, f := l.x.Build(id, grant); !bytes.Equal(b, want) || e != f || len(b) > max(grant, 0) {
			l.t.Fatalf("step %d: Build(%d, %d): %x %v, want %x %v", serial, id, grant, b, f, want, e)
		}
		return "build", e
	case what < 98:
		b := anyBytes(l.r, x.c, serial)
		want, e := x.hear(b)
		if texts, f := l.x.Hear(id, b); !slices.EqualFunc(texts, want, bytes.Equal) || e != f {
			l.t.Fatalf("step %d: Hear(%d, %x): %q %v, want %q %v", serial, id, b, texts, f, want, e)
		}
		return "hear", e
	}
	want := x.reset()
	if texts, e := l.x.Reset(id); !slices.EqualFunc(texts, want, bytes.Equal) || e != api.OK {
		l.t.Fatalf("step %d: Reset(%d): %q %v, want %q", serial, id, texts, e, want)
	}
	return "reset", api.OK
}

func (l *beside) tick(serial int) {
	l.t.Helper()
	told := l.x.Tick()
	ids := l.ids()
	if len(told) != len(ids) {
		l.t.Fatalf("step %d: Tick: %q", serial, told)
	}
	for i, id := range ids {
		if want := l.alone[id].tick(); !slices.EqualFunc(told[i], want, bytes.Equal) {
			l.t.Fatalf("step %d: Tick: %q of %d, want %q", serial, told[i], id, want)
		}
	}
}

func (l *beside) ids() []int {
	var ids []int
	for id := range 32 {
		if l.alone[id] != nil {
			ids = append(ids, id)
		}
	}
	return ids
}

// P28.4

// TestSideBySide: each bearer of a table is as it is for itself, whatever is done with the others.
func TestSideBySide(t *testing.T) {
	type met struct {
		mode int
		call string
		e    api.Errno
	}
	often := map[met]int{}
	for seed := range int64(100) {
		r := rand.New(rand.NewSource(seed))
		l := &beside{t: t, r: r, x: bearer.New(), alone: map[int]*alone{}}
		for serial := range 500 {
			id := 1 + r.Intn(13)
			switch x := l.alone[id]; {
			case r.Intn(30) == 0:
				l.add()
			case r.Intn(20) == 0:
				l.tick(serial)
			case x == nil:
				wantNoBearer(t, l.x, id, api.ErrNone)
			default:
				call, e := l.play(id, x, serial)
				often[met{x.c.Mode, call, e}]++
			}
			wantIDs(t, l.x, l.ids()...)
			for id, x := range l.alone {
				wantConfig(t, l.x, id, x.c, api.OK)
				wantTold(t, l.x, id, x.told())
			}
		}
	}
	for mode := range 3 {
		for call, errors := range map[string][]api.Errno{
			"push":    {api.OK, api.ErrArg, api.ErrFull},
			"discard": {api.OK, api.ErrNone},
			"build":   {api.OK, api.ErrArg, api.ErrNone, api.ErrGrant},
			"hear":    {api.OK, api.ErrShort},
			"reset":   {api.OK},
		} {
			for _, e := range errors {
				if n := often[met{mode, call, e}]; n < 20 {
					t.Errorf("of the mode %d %s told %v %d times", mode, call, e, n)
				}
			}
		}
	}
}
