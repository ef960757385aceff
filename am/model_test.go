package am_test

import (
	"bytes"
	"math/rand"
	"slices"
	"strconv"
	"testing"

	"bowline/am"
	"bowline/amd"
	"bowline/amrx"
	"bowline/amtx"
	"bowline/api"
	"bowline/pdu"
	"bowline/status"
)

// model is an entity word by word: a sender and a receiver that know nothing of each other.
type model struct {
	c   api.Config
	tx  *amtx.Sender
	rx  *amrx.Receiver
	bad int
}

func modelOf(t *testing.T, c api.Config) *model {
	t.Helper()
	tx, e := amtx.New(c)
	rx, f := amrx.New(c)
	if e != api.OK || f != api.OK {
		t.Fatalf("New: %v %v", e, f)
	}
	return &model{c: c, tx: tx, rx: rx}
}

func (m *model) told() told {
	tx, rx := m.tx.State(), m.rx.State()
	l := told{
		state: [10]int{
			tx[0], tx[1], tx[2], tx[3],
			rx[0], rx[1], rx[2], rx[3], rx[4], rx[5],
		},
		unsure: len(m.tx.Open()), failed: m.tx.Failed(), bad: m.bad,
	}
	l.waits, l.due = m.tx.Waits()
	return l
}

func (m *model) build(grant int) ([]byte, api.Errno) {
	if grant < 0 || grant > api.MaxGrant {
		return nil, api.ErrArg
	}
	if m.rx.Wants() {
		if s, e := m.rx.Report(grant); e == api.OK {
			return pdu.Write(m.c, pdu.Unit{Kind: 3, St: s})
		}
	}
	p, e := m.tx.Build(grant)
	if e != api.OK {
		return nil, e
	}
	return pdu.Write(m.c, pdu.Unit{Kind: 2, Am: p})
}

func (m *model) hear(b []byte) ([][]byte, api.Errno) {
	if len(b) > 0 && b[0] < 0x80 {
		s, e := status.Read(b, m.c.Bits)
		if e != api.OK {
			m.bad++
			return nil, e
		}
		return nil, m.tx.Status(s)
	}
	p, e := amd.Read(b, m.c.Bits)
	if e != api.OK {
		m.bad++
		return nil, e
	}
	return m.rx.Hear(p)
}

// chance is a config, and often one with a small window.
func chance(r *rand.Rand) api.Config {
	c := config(widths[r.Intn(2)])
	c.Window = []int{1, 2, 4, 16, 512}[r.Intn(5)]
	c.Reorder, c.Prohibit, c.PollRetx = 1+r.Intn(6), r.Intn(5), 1+r.Intn(9)
	c.PollPDU, c.PollByte, c.MaxRetx = 1+r.Intn(8), 1+r.Intn(500), 1+r.Intn(8)
	c.QueueBytes = 1 + r.Intn(2000)
	return c
}

// anyBytes is a packet near what the entity waits for, a status near what it sent, or something else.
func anyBytes(r *rand.Rand, m *model, serial int) []byte {
	size := 1 << m.c.Bits
	near := func(n int) int { return (n + r.Intn(4) + size - r.Intn(2)) % size }
	switch what := r.Intn(20); {
	case what < 10:
		p := packet(near(m.rx.State()[0]), r.Intn(4), strconv.Itoa(serial), "b")
		p.Poll = r.Intn(3) == 0
		if r.Intn(2) == 0 {
			p.Part, p.Offset, p.Last = true, r.Intn(4), r.Intn(3) == 0
		}
		return packed(p, m.c.Bits)
	case what < 18:
		open := m.tx.State()
		ack := (open[0] + r.Intn((open[1]-open[0]+size)%size+1) + r.Intn(20)/19) % size
		var l []status.Miss
		for range r.Intn(3) {
			if sn := near(open[0]); r.Intn(2) == 0 {
				l = append(l, all(sn))
			} else {
				l = append(l, some(sn, r.Intn(3), []int{0, 4, 9}[r.Intn(3)]))
			}
		}
		return report(m.c.Bits, ack, l...)
	}
	b := make([]byte, r.Intn(6))
	r.Read(b)
	return b
}

// TestModel holds entities against the document's words, whatever comes.
func TestModel(t *testing.T) {
	type met struct {
		call string
		e    api.Errno
	}
	often := map[met]int{}
	for seed := range int64(200) {
		r := rand.New(rand.NewSource(seed))
		c := chance(r)
		x, m := of(t, c), modelOf(t, c)
		for serial := range 500 {
			switch what := r.Intn(100); {
			case what == 0:
				want := m.tx.Reset()
				m.rx.Reset()
				if l := x.Reset(); !slices.Equal(l, want) {
					t.Fatalf("seed %d, step %d: Reset: %v, want %v", seed, serial, l, want)
				}
				often[met{"reset", 0}]++
			case what < 20:
				text := []byte(long(r.Intn(60)))
				want, e := m.tx.Push(text)
				if id, f := x.Push(text); id != want || f != e {
					t.Fatalf("seed %d, step %d: Push: %d %v, want %d %v", seed, serial, id, f, want, e)
				}
				often[met{"push", e}]++
			case what < 25:
				id := uint64(r.Intn(serial/5 + 2))
				e := m.tx.Discard(id)
				if f := x.Discard(id); f != e {
					t.Fatalf("seed %d, step %d: Discard(%d): %v, want %v", seed, serial, id, f, e)
				}
				often[met{"discard", e}]++
			case what < 35:
				x.Tick()
				m.tx.Tick()
				m.rx.Tick()
			case what < 65:
				grant := []int{-1, 0, 1, 2, 3, 5, 8, 20, 60, 300, api.MaxGrant, api.MaxGrant + 1}[r.Intn(12)]
				want, e := m.build(grant)
				b, f := x.Build(grant)
				if !bytes.Equal(b, want) || e != f || len(b) > max(grant, 0) {
					t.Fatalf("seed %d, step %d: Build(%d): %x %v, want %x %v", seed, serial, grant, b, f, want, e)
				}
				often[met{"build", e}]++
			default:
				b := anyBytes(r, m, serial)
				want, e := m.hear(b)
				if l, f := x.Hear(b); f != e || !slices.EqualFunc(l, want, bytes.Equal) {
					t.Fatalf("seed %d, step %d: Hear(%x): %q %v, want %q %v", seed, serial, b, l, f, want, e)
				}
				often[met{"hear", e}]++
			}
			wantTold(t, x, m.told())
		}
	}
	for _, one := range []met{
		{"push", api.OK}, {"push", api.ErrArg}, {"push", api.ErrFull},
		{"discard", api.OK}, {"discard", api.ErrNone}, {"discard", api.ErrState},
		{"build", api.OK}, {"build", api.ErrArg}, {"build", api.ErrNone}, {"build", api.ErrWindow}, {"build", api.ErrGrant},
		{"hear", api.OK}, {"hear", api.ErrForm}, {"hear", api.ErrShort}, {"hear", api.ErrWindow}, {"hear", api.ErrTwice},
		{"reset", api.OK},
	} {
		if often[one] < 50 {
			t.Errorf("%v was met %d times", one, often[one])
		}
	}
}

// P4, P6, P7 and P10 of the document: two entities, and ways between that lose, double and mix

// coming is bytes that come at a tick.
type coming struct {
	at int
	b  []byte
}

// side is an entity, what comes to it, and what it pushed and was told since the last Reset.
type side struct {
	x      *am.Entity
	coming []coming
	ids    []uint64
	pushed []string
	told   []string
}

// link is two entities, and what becomes of what is on its way.
type link struct {
	t        *testing.T
	r        *rand.Rand
	c        api.Config
	sides    [2]side
	now      int
	lost     int // of a hundred
	late     int // ticks at most
	smallest int // grant
	serial   int
	gone     int
	refused  int
}

func linkOf(t *testing.T, r *rand.Rand, lost int) *link {
	t.Helper()
	c := chance(r)
	c.MaxRetx, c.QueueBytes = 32, 3000
	l := &link{t: t, r: r, c: c, lost: lost, late: r.Intn(6), smallest: 8 + r.Intn(8)}
	for i := range l.sides {
		l.sides[i].x = of(t, c)
	}
	return l
}

func (l *link) push(s *side) {
	l.serial++
	text := strconv.Itoa(l.serial) + ":" + long(l.r.Intn(90))
	if id, e := s.x.Push([]byte(text)); e == api.OK {
		s.ids, s.pushed = append(s.ids, id), append(s.pushed, text)
	}
}

// discard lets some text be gone, if none of it was sent.
func (l *link) discard(s *side) {
	if len(s.ids) == 0 {
		return
	}
	at := len(s.ids) - 1 - l.r.Intn(min(len(s.ids), 4))
	if s.x.Discard(s.ids[at]) == api.OK {
		s.ids, s.pushed = slices.Delete(s.ids, at, at+1), slices.Delete(s.pushed, at, at+1)
		l.gone++
	}
}

func (l *link) build(from, to *side) {
	l.t.Helper()
	grant := l.smallest + l.r.Intn(80)
	b, e := from.x.Build(grant)
	if len(b) > grant || (e == api.OK) != (len(b) > 0) {
		l.t.Fatalf("Build(%d): %d bytes, %v", grant, len(b), e)
	}
	if e != api.OK {
		return
	}
	for range 1 + l.r.Intn(2)*l.r.Intn(2) {
		if l.r.Intn(100) >= l.lost {
			to.coming = append(to.coming, coming{l.now + l.r.Intn(l.late+1), b})
		}
	}
}

// hear holds that what is told is what the other side pushed, in order.
func (l *link) hear(s, other *side) {
	l.t.Helper()
	var now [][]byte
	s.coming = slices.DeleteFunc(s.coming, func(one coming) bool {
		if one.at <= l.now {
			now = append(now, one.b)
		}
		return one.at <= l.now
	})
	l.r.Shuffle(len(now), func(i, j int) { now[i], now[j] = now[j], now[i] })
	for _, b := range now {
		texts, e := s.x.Hear(b)
		if e != api.OK {
			l.refused++
		}
		for _, text := range texts {
			at := len(s.told)
			if at >= len(other.pushed) || other.pushed[at] != string(text) {
				l.t.Fatalf("the text %d is %q", at, text)
			}
			s.told = append(s.told, string(text))
		}
	}
	s.x.Tick()
}

func (l *link) step() {
	l.t.Helper()
	a, b := &l.sides[0], &l.sides[1]
	for range 1 + l.r.Intn(3) {
		l.build(a, b)
		l.build(b, a)
	}
	l.hear(a, b)
	l.hear(b, a)
	l.now++
}

// done tells whether nothing waits, and nothing is unsure.
func (l *link) done() bool {
	for i := range l.sides {
		waits, due := l.sides[i].x.Waits()
		if waits+due+l.sides[i].x.Unsure() > 0 {
			return false
		}
	}
	return true
}

func (l *link) failed() bool { return l.sides[0].x.Failed() || l.sides[1].x.Failed() }

// finish lets all come, till nothing waits: all was told then.
func (l *link) finish() {
	l.t.Helper()
	l.lost, l.late = 0, 0
	for range 3000 {
		if l.done() && len(l.sides[0].coming)+len(l.sides[1].coming) == 0 {
			break
		}
		l.step()
	}
	a, b := &l.sides[0], &l.sides[1]
	if !l.done() || !slices.Equal(a.told, b.pushed) || !slices.Equal(b.told, a.pushed) {
		l.t.Fatalf("%d of %d, %d of %d texts; %+v; %+v",
			len(a.told), len(b.pushed), len(b.told), len(a.pushed), toldOf(a.x), toldOf(b.x))
	}
}

// TestThereAndBack: whatever is lost, doubled and mixed, a beginning of what was pushed is told, each text once; and when all comes again, all of it.
func TestThereAndBack(t *testing.T) {
	gone, refused, failed := 0, 0, 0
	for seed := range int64(100) {
		r := rand.New(rand.NewSource(seed))
		l := linkOf(t, r, []int{0, 5, 30, 60}[seed%4])
		for range 2 {
			for range 150 {
				for i := range l.sides {
					for range r.Intn(3) {
						l.push(&l.sides[i])
					}
					if r.Intn(8) == 0 {
						l.discard(&l.sides[i])
					}
				}
				l.step()
			}
			if l.failed() {
				failed++
			}
			l.finish()
			for i := range l.sides {
				s := &l.sides[i]
				wantReset(t, s.x)
				s.ids, s.pushed, s.told = nil, nil, nil
			}
		}
		gone += l.gone
		refused += l.refused
	}
	if gone < 300 || refused < 3000 || failed > 20 {
		t.Errorf("%d texts were discarded; %d times bytes were refused; it failed %d times", gone, refused, failed)
	}
}

// TestAnew: behind a Reset of both sides, at whatever moment, they are as new ones.
func TestAnew(t *testing.T) {
	for seed := range int64(40) {
		r := rand.New(rand.NewSource(seed))
		l := linkOf(t, r, 30)
		for range 60 {
			l.push(&l.sides[r.Intn(2)])
			l.step()
		}
		for i := range l.sides {
			s := &l.sides[i]
			s.x.Reset()
			wantTold(t, s.x, fresh)
			wantNone(t, s.x, 100, api.ErrNone)
			s.coming, s.ids, s.pushed, s.told = nil, nil, nil, nil
		}
		for range 60 {
			l.push(&l.sides[r.Intn(2)])
			l.step()
		}
		l.finish()
	}
}

// TestFailsJustThen: it failed just when something was considered as often as its limit says.
func TestFailsJustThen(t *testing.T) {
	for limit := 1; limit <= 32; limit++ {
		x := changed(t, func(c *api.Config) { c.MaxRetx = limit })
		wantPushed(t, x, "a")
		for n := range limit {
			wantFailed(t, x, false)
			wantBuild(t, x, 100, packed(polls(packet(0, 0, "a")), 10))
			if n%2 == 0 {
				ticks(x, 8)
			} else {
				wantHear(t, x, report(10, 1, all(0)))
			}
		}
		wantFailed(t, x, true)
		wantHear(t, x, report(10, 1))
		wantFailed(t, x, true)
	}
}

// P9 of the document: whatever comes

func TestWhateverComes(t *testing.T) {
	for seed := range int64(60) {
		r := rand.New(rand.NewSource(seed))
		c := chance(r)
		x := of(t, c)
		for range 400 {
			b := make([]byte, r.Intn(1+r.Intn(40)))
			r.Read(b)
			before := toldOf(x)
			_, read := pdu.Read(c, b)
			texts, e := x.Hear(b)
			if read != api.OK {
				before.bad++
				if len(texts) != 0 || e != read {
					t.Fatalf("Hear(%x): %q %v, want %v", b, texts, e, read)
				}
			}
			if e != api.OK {
				wantTold(t, x, before)
			}
			x.Build(r.Intn(100))
			x.Tick()
		}
	}
}
