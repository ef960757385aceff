package amtx_test

import (
	"bytes"
	"math/rand"
	"slices"
	"testing"

	"bowline/amd"
	"bowline/amtx"
	"bowline/api"
	"bowline/cut"
	"bowline/queue"
	"bowline/reseg"
	"bowline/status"
)

// kept is a packet, byte by byte.
type kept struct {
	is    amd.Packet
	due   []bool
	count int
}

// model is a sender, word by word of the document.
type model struct {
	c           api.Config
	waits       *queue.Queue
	first, next int
	open        map[int]*kept
	since       [2]int // packets and bytes
	wants       bool
	asked, left int
	failed      bool
}

func modelOf(c api.Config) *model {
	q, _ := queue.New(c.QueueBytes)
	return &model{c: c, waits: q, open: map[int]*kept{}, asked: none}
}

func (m *model) size() int { return 1 << m.c.Bits }

func (m *model) far(n int) int { return (n - m.first + m.size()) % m.size() }

// numbers is the open numbers, from A on.
func (m *model) numbers() []int {
	var l []int
	for n := m.first; n != m.next; n = (n + 1) % m.size() {
		if m.open[n] != nil {
			l = append(l, n)
		}
	}
	return l
}

func (m *model) due() int {
	n := 0
	for _, k := range m.open {
		for _, is := range k.due {
			if is {
				n++
			}
		}
	}
	return n
}

func (m *model) told() told {
	l := told{
		state: [4]int{m.first, m.next, m.asked, m.left},
		waits: m.waits.Bytes(), due: m.due(), failed: m.failed,
		open: m.numbers(),
	}
	for _, n := range l.open {
		l.counts = append(l.counts, m.open[n].count)
	}
	return l
}

func (m *model) empty() bool { return m.waits.Bytes() == 0 && m.due() == 0 }

func (m *model) stalled() bool { return m.far(m.next) == m.c.Window }

func (m *model) build(grant int) (amd.Packet, api.Errno) {
	if grant < 0 || grant > api.MaxGrant {
		return amd.Packet{}, api.ErrArg
	}
	var p amd.Packet
	var e api.Errno
	if m.due() > 0 {
		p, e = m.again(grant)
	} else {
		p, e = m.anew(grant)
	}
	if e != api.OK {
		return amd.Packet{}, e
	}
	if m.empty() || m.stalled() || m.wants || m.since[0] >= m.c.PollPDU || m.since[1] >= m.c.PollByte {
		m.since, m.wants = [2]int{}, false
		p.Poll = true
		m.asked = (m.next - 1 + m.size()) % m.size()
		m.left = m.c.PollRetx
	}
	return p, api.OK
}

func (m *model) again(grant int) (amd.Packet, api.Errno) {
	for _, n := range m.numbers() {
		k := m.open[n]
		from := slices.Index(k.due, true)
		if from < 0 {
			continue
		}
		to := from
		for to < len(k.due) && k.due[to] {
			to++
		}
		p, end, e := reseg.Cut(k.is, from, to, grant, m.c.Bits)
		for at := from; at < end; at++ {
			k.due[at] = false
		}
		return p, e
	}
	panic("something is due")
}

func (m *model) anew(grant int) (amd.Packet, api.Errno) {
	head, lengths := 2, 11
	if m.c.Bits == 16 {
		head, lengths = 3, 15
	}
	switch {
	case m.waits.Bytes() == 0:
		return amd.Packet{}, api.ErrNone
	case m.stalled():
		return amd.Packet{}, api.ErrWindow
	case grant <= head:
		return amd.Packet{}, api.ErrGrant
	}
	piece, _ := cut.Build(m.waits, min(grant, api.MaxPDU)-head, lengths)
	p := amd.Packet{FI: piece.FI, SN: m.next, Fields: piece.Fields}
	n := len(bytes.Join(p.Fields, nil))
	m.open[m.next] = &kept{is: p, due: make([]bool, n)}
	m.next = (m.next + 1) % m.size()
	m.since[0]++
	m.since[1] += n
	return p, api.OK
}

func (m *model) consider(sn, from, to int) {
	k := m.open[sn]
	if to == 0 || to > len(k.due) {
		to = len(k.due)
	}
	if from < to && slices.Contains(k.due[from:to], false) {
		k.count++
		for at := from; at < to; at++ {
			k.due[at] = true
		}
	}
	m.failed = m.failed || k.count >= m.c.MaxRetx
}

func (m *model) status(s status.Status) api.Errno {
	switch {
	case !status.Right(s, m.c.Bits):
		return api.ErrForm
	case m.far(s.Ack) > m.far(m.next):
		return api.ErrWindow
	}
	end, missed := m.far(s.Ack), map[int]int{}
	for _, miss := range s.Misses {
		missed[miss.SN] = 1
		if m.open[miss.SN] != nil && m.far(miss.SN) < end {
			m.consider(miss.SN, miss.From, miss.To)
		}
	}
	answered := m.asked != none && m.far(m.asked) < end
	for _, n := range m.numbers() {
		if m.far(n) < end && missed[n] == 0 {
			delete(m.open, n)
		}
	}
	for m.first != m.next && m.open[m.first] == nil {
		m.first = (m.first + 1) % m.size()
	}
	if answered || len(m.open) == 0 {
		m.left, m.asked = 0, none
	}
	return api.OK
}

func (m *model) tick() bool {
	ended := m.left == 1
	m.left = max(m.left-1, 0)
	open := m.numbers()
	if ended {
		if (m.empty() || m.stalled()) && len(open) > 0 {
			m.consider(open[len(open)-1], 0, 0)
		}
		m.wants = true
	}
	if m.left == 0 && len(open) > 0 && (m.empty() || m.stalled()) {
		m.left = m.c.PollRetx
	}
	return ended
}

func (m *model) reset() []uint64 {
	gone := m.waits.Clear()
	q := m.waits
	*m = *modelOf(m.c)
	m.waits = q
	return gone
}

// chance is a config of which all that may happen happens soon.
func chance(r *rand.Rand, width int) api.Config {
	c := config(width)
	c.Window = 1 + r.Intn(12)
	c.PollRetx = 1 + r.Intn(6)
	c.PollPDU = 1 + r.Intn(12)
	c.PollByte = 1 + r.Intn(80)
	c.MaxRetx = 1 + r.Intn(6)
	c.QueueBytes = 1 + r.Intn(120)
	return c
}

// anyStatus is one that the other side might tell, or nobody.
func anyStatus(r *rand.Rand, m *model) status.Status {
	near := func(n int) int { return (n + r.Intn(5) - 2 + m.size()) % m.size() }
	ack := (m.first + r.Intn(m.far(m.next)+1)) % m.size()
	if r.Intn(6) == 0 {
		ack = near(m.next)
	}
	s := status.Status{Ack: ack}
	for range max(r.Intn(8)-3, 0) {
		miss := status.Miss{SN: near(m.first + r.Intn(m.far(m.next)+1)), Part: r.Intn(2) == 0}
		if miss.Part {
			miss.From, miss.To = r.Intn(12), r.Intn(14)
		}
		s.Misses = append(s.Misses, miss)
	}
	if r.Intn(30) == 0 {
		s.Ack = []int{-1, m.size(), 1 << 20}[r.Intn(3)]
	}
	return s
}

// play does with a sender and its model one thing of many, and tells the name of what was met.
func play(t *testing.T, r *rand.Rand, x *amtx.Sender, m *model) (string, api.Errno) {
	t.Helper()
	switch n := r.Intn(200); {
	case n == 0:
		want := m.reset()
		if l := x.Reset(); !slices.Equal(l, want) {
			t.Fatalf("Reset: %v, want %v", l, want)
		}
		return "reset", api.OK
	case n < 6:
		id := uint64(r.Intn(200))
		if ids := m.waits.IDs(); len(ids) > 0 && n < 5 {
			id = ids[r.Intn(len(ids))]
		}
		want := m.waits.Discard(id)
		wantDiscard(t, x, id, want)
		return "discard", want
	case n < 50:
		text := long(r.Intn(30))
		id, want := m.waits.Push([]byte(text))
		wantPush(t, x, text, id, want)
		return "push", want
	case n < 75:
		want := m.tick()
		if is := x.Tick(); is != want {
			t.Fatalf("Tick: %v, want %v", is, want)
		}
		return "tick", api.OK
	case n < 110:
		s := anyStatus(r, m)
		want := m.status(s)
		if e := x.Status(s); e != want {
			t.Fatalf("Status(%+v): %v, want %v", s, e, want)
		}
		return "status", want
	}
	grant := r.Intn(26)
	if r.Intn(20) == 0 {
		grant = []int{-1, api.MaxGrant + 1, api.MaxGrant}[r.Intn(3)]
	}
	p, want := m.build(grant)
	q, e := x.Build(grant)
	if !amd.Same(p, q) || e != want {
		t.Fatalf("Build(%d): %+v %v, want %+v %v", grant, q, e, p, want)
	}
	wantWithin(t, q, m.c.Bits, grant, e)
	return "build", want
}

// wantWithin wants that what was built has no more bytes than it was granted.
func wantWithin(t *testing.T, p amd.Packet, width, grant int, e api.Errno) {
	t.Helper()
	b, f := amd.Write(p, width)
	if e == api.OK && (f != api.OK || len(b) > grant || len(b) > api.MaxPDU) {
		t.Fatalf("Build(%d): %d bytes, %v", grant, len(b), f)
	}
}

func TestModel(t *testing.T) {
	type met struct {
		call string
		e    api.Errno
	}
	often, failed := map[met]int{}, 0
	for seed := range int64(150) {
		r := rand.New(rand.NewSource(seed))
		c := chance(r, widths[seed%2])
		x, m := of(t, c), modelOf(c)
		for range 700 {
			before := x.Failed()
			call, e := play(t, r, x, m)
			often[met{call, e}]++
			wantTold(t, x, m.told())
			if x.Failed() && !before {
				failed++
			}
			if l := x.Open(); len(l) > c.Window {
				t.Fatalf("%d are open, of a window of %d", len(l), c.Window)
			}
			for n := range 4 {
				if sn := (m.next + n) % m.size(); m.open[sn] == nil {
					wantCount(t, x, sn, 0)
				}
			}
		}
	}
	for _, one := range []met{
		{"build", api.OK}, {"build", api.ErrArg}, {"build", api.ErrNone}, {"build", api.ErrWindow}, {"build", api.ErrGrant},
		{"status", api.OK}, {"status", api.ErrForm}, {"status", api.ErrWindow},
		{"push", api.OK}, {"push", api.ErrFull}, {"discard", api.OK}, {"tick", api.OK}, {"reset", api.OK},
	} {
		if often[one] < 100 {
			t.Errorf("%v was met %d times", one, often[one])
		}
	}
	if failed < 100 {
		t.Errorf("it failed %d times", failed)
	}
}

// hearer is the other side: of the numbers that came it has data byte by byte.
type hearer struct {
	next  int // behind the greatest that came
	came  map[int][]byte
	has   map[int][]bool
	whole map[int]amd.Packet // as it was built at first
}

// hear hears a packet or a part.
func (h *hearer) hear(t *testing.T, p amd.Packet) {
	t.Helper()
	if h.has[p.SN] == nil {
		n := len(amd.Data(h.whole[p.SN]))
		h.came[p.SN], h.has[p.SN] = make([]byte, n), make([]bool, n)
	}
	for i, c := range amd.Data(p) {
		h.came[p.SN][p.Offset+i], h.has[p.SN][p.Offset+i] = c, true
	}
	h.next = max(h.next, p.SN+1)
}

// status is what came, and what is missing, as much as may be told.
func (h *hearer) status() status.Status {
	s := status.Status{Ack: h.next}
	for sn := range h.next {
		var l []status.Miss
		has := h.has[sn]
		if has == nil {
			l = append(l, all(sn))
		}
		for at, is := range has {
			switch {
			case is:
			case at > 0 && !has[at-1]:
				l[len(l)-1].To++
			default:
				l = append(l, some(sn, at, at+1))
			}
		}
		if len(s.Misses)+len(l) > api.MaxNacks {
			return status.Status{Ack: sn, Misses: s.Misses}
		}
		s.Misses = append(s.Misses, l...)
	}
	return s
}

// TestAllComes: over a way that loses, all that was pushed comes, and then nothing waits any more.
func TestAllComes(t *testing.T) {
	for seed := range int64(40) {
		r := rand.New(rand.NewSource(seed))
		c := config(widths[seed%2])
		c.Window, c.PollPDU, c.PollRetx = 1+r.Intn(30), 1+r.Intn(20), 1+r.Intn(6)
		x := of(t, c)
		h := &hearer{came: map[int][]byte{}, has: map[int][]bool{}, whole: map[int]amd.Packet{}}
		var pushed []byte
		for range 40 {
			text := make([]byte, 1+r.Intn(60))
			r.Read(text)
			wantPushed(t, x, string(text))
			pushed = append(pushed, text...)
		}
		for range 20000 {
			grant := 6 + r.Intn(40)
			waits, due := x.Waits()
			p, e := x.Build(grant)
			wantWithin(t, p, c.Bits, grant, e)
			if e == api.OK && due == 0 {
				h.whole[p.SN] = p
			}
			if more, left := x.Waits(); due > 0 && (more != waits || left >= due) {
				t.Fatalf("%d are due, but %d were built of what is new", due-left, waits-more)
			}
			if e == api.OK && r.Intn(3) > 0 {
				h.hear(t, p)
				if p.Poll && r.Intn(3) > 0 {
					s := h.status()
					wantStatus(t, x, s.Ack, s.Misses...)
				}
			}
			x.Tick()
		}
		wantState(t, x, len(h.whole), len(h.whole), none, 0)
		wantWaits(t, x, 0, 0)
		wantNone(t, x, api.MaxGrant, api.ErrNone)
		var came []byte
		for sn := range h.whole {
			if h.has[sn] == nil || slices.Contains(h.has[sn], false) {
				t.Fatalf("of %d not all came", sn)
			}
		}
		for sn := range len(h.whole) {
			came = append(came, h.came[sn]...)
		}
		if !bytes.Equal(came, pushed) {
			t.Fatalf("%d bytes were pushed, %d came, or others", len(pushed), len(came))
		}
	}
}
