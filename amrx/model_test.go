package amrx_test

import (
	"bytes"
	"math"
	"math/rand"
	"slices"
	"strconv"
	"testing"

	"bowline/amd"
	"bowline/amrx"
	"bowline/amtx"
	"bowline/api"
	"bowline/glue"
	"bowline/rxbuf"
	"bowline/status"
)

// model is a receiver word by word, of numbers that do not go round.
type model struct {
	c                 api.Config
	r, ms, h, until   int
	whole             map[int]bool // of all that ever was
	waits             []int
	wanted            bool
	reorder, prohibit int
	buffer            *rxbuf.Buffer
	glue              *glue.Glue
}

func modelOf(c api.Config) *model {
	return &model{c: c, whole: map[int]bool{}, buffer: rxbuf.New(), glue: glue.New()}
}

func (m *model) size() int { return 1 << m.c.Bits }

func (m *model) round(n int) int { return n % m.size() }

// nearest is the number from R on that goes round to n.
func (m *model) nearest(n int) int { return m.r + m.round(n-m.round(m.r)+m.size()) }

func (m *model) open(n int) int {
	for m.whole[n] {
		n++
	}
	return n
}

func (m *model) hear(p amd.Packet) ([][]byte, api.Errno) {
	n, e := m.put(p)
	if e != api.OK {
		m.wanted = m.wanted || p.Poll
		return nil, e
	}
	m.h = max(m.h, n+1)
	var told [][]byte
	if m.buffer.Whole(p.SN) {
		m.whole[n] = true
		m.ms = m.open(m.ms)
		for ; m.whole[m.r]; m.r++ {
			fi, fields, _ := m.buffer.Take(m.round(m.r))
			texts, _ := m.glue.Put(fi, fields, false)
			told = append(told, texts...)
		}
		m.ms = max(m.ms, m.r)
	}
	if p.Poll {
		m.waits = append(m.waits, n)
	}
	// X is never further than the window's size but when R went past it.
	if m.reorder > 0 && m.until <= m.r {
		m.reorder = 0
	}
	if m.reorder == 0 && m.h != m.r {
		m.reorder, m.until = m.c.Reorder, m.h
	}
	m.waits = slices.DeleteFunc(m.waits, func(n int) bool {
		told := n < m.ms || n < m.r
		m.wanted = m.wanted || told
		return told
	})
	return told, api.OK
}

func (m *model) put(p amd.Packet) (int, api.Errno) {
	if !amd.Right(p, m.c.Bits) {
		return 0, api.ErrForm
	}
	n := m.nearest(p.SN)
	switch {
	case n >= m.r+m.c.Window:
		return 0, api.ErrWindow
	case m.whole[n]:
		return 0, api.ErrTwice
	}
	return n, m.buffer.Put(p)
}

func (m *model) tick() {
	m.prohibit = max(m.prohibit-1, 0)
	if m.reorder == 0 {
		return
	}
	if m.reorder--; m.reorder > 0 {
		return
	}
	if m.until >= m.ms {
		m.ms = m.open(m.until)
	}
	m.wanted = true
	if m.h > m.ms {
		m.reorder, m.until = m.c.Reorder, m.h
	}
}

func (m *model) report(grant int) (status.Status, api.Errno) {
	switch {
	case !m.wanted || m.prohibit > 0:
		return status.Status{}, api.ErrNone
	case grant < 0 || grant > api.MaxGrant:
		return status.Status{}, api.ErrArg
	case grant < 2+m.c.Bits/16:
		return status.Status{}, api.ErrGrant
	}
	m.wanted, m.prohibit = false, m.c.Prohibit
	s := status.Status{Ack: m.round(m.ms)}
	for n := m.r; n < m.ms; n++ {
		if m.whole[n] {
			continue
		}
		more := status.Status{Ack: s.Ack, Misses: slices.Clone(s.Misses)}
		for _, x := range m.buffer.Missing(m.round(n)) {
			more.Misses = append(more.Misses, some(m.round(n), x.From, x.To))
		}
		if len(m.buffer.Missing(m.round(n))) == 0 {
			more.Misses = append(more.Misses, all(m.round(n)))
		}
		if len(more.Misses) > api.MaxNacks || status.Size(more, m.c.Bits) > grant {
			s.Ack = m.round(n)
			break
		}
		s = more
	}
	return s, api.OK
}

func (m *model) state() state {
	return state{
		[6]int{m.round(m.r), m.round(m.ms), m.round(m.h), m.round(m.until), m.reorder, m.prohibit},
		m.buffer.Bytes(),
		m.wanted && m.prohibit == 0,
	}
}

// chance is a config, and often one with a small window.
func chance(r *rand.Rand) api.Config {
	width := widths[r.Intn(2)]
	c := config(width, []int{1, 2, 3, 8, 40, 1<<width/2 - 1, 1 << width / 2}[r.Intn(7)])
	c.Reorder, c.Prohibit = 1+r.Intn(9), r.Intn(6)
	return c
}

// anyPacket is of any number, often of one near those that the receiver reckons with, and often a part.
func anyPacket(r *rand.Rand, m *model, serial int) amd.Packet {
	spread := []int{1, 2, 4, m.c.Window, m.c.Window + 3, m.size()}[r.Intn(6)]
	near := []int{m.r, m.r, m.h, m.ms, m.until, m.r - 1 + m.size()}[r.Intn(6)]
	p := amd.Packet{Poll: r.Intn(4) == 0, FI: r.Intn(4), SN: m.round(near + r.Intn(spread))}
	for i := range 1 + r.Intn(3) {
		p.Fields = append(p.Fields, []byte(strconv.Itoa(serial) + "." + strconv.Itoa(i))[:1+r.Intn(3)])
	}
	if r.Intn(2) == 0 {
		p.Part, p.Offset, p.Last = true, r.Intn(r.Intn(12)+1), r.Intn(3) == 0
	}
	switch r.Intn(60) {
	case 0:
		p.FI = 4
	case 1:
		p.Part, p.Offset = true, api.MaxPDU-1
	}
	return p
}

// TestModel holds receivers against the document's words, whatever comes.
func TestModel(t *testing.T) {
	type met struct {
		call string
		e    api.Errno
	}
	often, many := map[met]int{}, 0
	for seed := range int64(300) {
		r := rand.New(rand.NewSource(seed))
		c := chance(r)
		x, m := of(t, c), modelOf(c)
		for n := range r.Intn(2) * (1<<10 - r.Intn(10)) { // so that numbers of 10 bits go round
			told, _ := x.Hear(one(n))
			want, _ := m.hear(one(n))
			if !slices.EqualFunc(told, want, bytes.Equal) {
				t.Fatalf("Hear(%d): %q, want %q", n, told, want)
			}
		}
		for serial := range 500 {
			switch what := r.Intn(100); {
			case what == 0 && r.Intn(3) == 0:
				x.Reset()
				m = modelOf(c)
				often[met{"reset", 0}]++
			case what < 30:
				x.Tick()
				m.tick()
			case what < 50:
				grant := []int{-1, 1, 2, 3, 8, 20, 60, 300, api.MaxGrant, api.MaxGrant + 1}[r.Intn(10)]
				want, e := m.report(grant)
				if s, f := x.Report(grant); !status.Same(s, want) || e != f {
					t.Fatalf("seed %d, step %d: Report(%d): %v %v, want %v %v", seed, serial, grant, s, f, want, e)
				}
				often[met{"report", e}]++
			default:
				p := anyPacket(r, m, serial)
				want, e := m.hear(p)
				if told, f := x.Hear(p); f != e || !slices.EqualFunc(told, want, bytes.Equal) {
					t.Fatalf("seed %d, step %d: Hear(%s): %q %v, want %q %v", seed, serial, shown(p), told, f, want, e)
				}
				often[met{"hear", e}]++
				many += len(want)
			}
			wantState(t, x, m.state())
		}
	}
	for _, one := range []met{
		{"hear", api.OK}, {"hear", api.ErrForm}, {"hear", api.ErrWindow}, {"hear", api.ErrTwice}, {"hear", api.ErrArg},
		{"report", api.OK}, {"report", api.ErrNone}, {"report", api.ErrArg}, {"report", api.ErrGrant}, {"reset", api.OK},
	} {
		if often[one] < 100 {
			t.Errorf("%v was met %d times", one, often[one])
		}
	}
	if many < 1000 {
		t.Errorf("%d texts were told", many)
	}
}

// P26.4: a sender, a receiver, and ways between that lose, double and mix

// way is what is on its way, with the tick at which it comes.
type way[T any] struct {
	at     int
	coming []coming[T]
}

type coming[T any] struct {
	at   int
	what T
}

// send lets something come at some ticks, late or soon, or not at all.
func (w *way[T]) send(r *rand.Rand, what T, lost, late int) {
	for range 1 + r.Intn(2)*r.Intn(2) {
		if r.Intn(100) >= lost {
			w.coming = append(w.coming, coming[T]{w.at + r.Intn(late+1), what})
		}
	}
}

// now is what comes with this tick.
func (w *way[T]) now(r *rand.Rand) []T {
	var l []T
	w.coming = slices.DeleteFunc(w.coming, func(one coming[T]) bool {
		if one.at <= w.at {
			l = append(l, one.what)
		}
		return one.at <= w.at
	})
	w.at++
	r.Shuffle(len(l), func(i, j int) { l[i], l[j] = l[j], l[i] })
	return l
}

// link is both sides, and the ways between them.
type link struct {
	t        *testing.T
	r        *rand.Rand
	c        api.Config
	tx       *amtx.Sender
	rx       *amrx.Receiver
	there    way[amd.Packet]
	back     way[status.Status]
	lost     int // of a hundred
	late     int // ticks at most
	smallest int // grant
	pushed   []string
	told     []string
	last     int // the tick of the last report
	parts    int
	met      map[api.Errno]int
}

func (l *link) push() {
	text := strconv.Itoa(len(l.pushed)) + ":" + long(l.r.Intn(90))
	if _, e := l.tx.Push([]byte(text)); e == api.OK {
		l.pushed = append(l.pushed, text)
	}
}

func (l *link) build() {
	grant := l.smallest + l.r.Intn(60)
	p, e := l.tx.Build(grant)
	if e != api.OK {
		return
	}
	if p.Part {
		l.parts++
	}
	l.there.send(l.r, p, l.lost, l.late)
}

func (l *link) report() {
	s, e := l.rx.Report(l.smallest + l.r.Intn(100))
	if e != api.OK {
		return
	}
	if ticks := l.there.at - l.last; ticks < l.c.Prohibit {
		l.t.Fatalf("%d ticks between two reports", ticks)
	}
	l.last = l.there.at
	l.back.send(l.r, s, l.lost, l.late)
}

// hear holds that what is told is what was pushed, in order.
func (l *link) hear(p amd.Packet) {
	l.t.Helper()
	texts, e := l.rx.Hear(p)
	l.met[e]++
	for _, text := range texts {
		at := len(l.told)
		if at == len(l.pushed) || l.pushed[at] != string(text) {
			l.t.Fatalf("the text %d is %q", at, text)
		}
		l.told = append(l.told, string(text))
	}
}

// step is a tick.
func (l *link) step() {
	l.t.Helper()
	for range l.r.Intn(4) {
		l.build()
		l.report()
	}
	for _, p := range l.there.now(l.r) {
		l.hear(p)
	}
	for _, s := range l.back.now(l.r) {
		l.tx.Status(s)
	}
	l.tx.Tick()
	l.rx.Tick()
}

// linkOf is a link of a width, of which so many of a hundred packets are lost.
func linkOf(t *testing.T, r *rand.Rand, width, lost int) *link {
	t.Helper()
	c := config(width, []int{1, 2, 4, 16, 64}[r.Intn(5)])
	c.Reorder, c.Prohibit, c.PollRetx = 1+r.Intn(6), r.Intn(5), 2+r.Intn(10)
	c.PollPDU, c.PollByte = 1+r.Intn(8), 50+r.Intn(500)
	tx, e := amtx.New(c)
	if e != api.OK {
		t.Fatalf("New: %v", e)
	}
	return &link{
		t: t, r: r, c: c, tx: tx, rx: of(t, c), last: -c.Prohibit,
		lost: lost, late: r.Intn(6), smallest: 8 + r.Intn(8), met: map[api.Errno]int{},
	}
}

// TestABeginning: whatever is lost, doubled and mixed, a beginning of what was pushed is told, each text once; and at last all of it.
func TestABeginning(t *testing.T) {
	parts, twice, window := 0, 0, 0
	for seed := range int64(120) {
		r := rand.New(rand.NewSource(seed))
		l := linkOf(t, r, widths[seed%2], []int{0, 5, 30, 60}[seed/2%4])
		many := 100
		if seed%10 == 0 { // of so many packets the numbers go round
			many = 1500
		}
		for range 100000 {
			if len(l.told) == many {
				break
			}
			for range r.Intn(3) {
				if len(l.pushed) < many {
					l.push()
				}
			}
			l.step()
		}
		if len(l.told) < many || !slices.Equal(l.told, l.pushed) {
			t.Fatalf("seed %d: %d texts of %d, %v, %v", seed, len(l.told), many, l.tx.State(), l.rx.State())
		}
		parts += l.parts
		twice += l.met[api.ErrTwice]
		window += l.met[api.ErrWindow]
	}
	if parts < 1000 || twice < 1000 || window < 1000 {
		t.Errorf("%d parts; %d came twice, %d too late", parts, twice, window)
	}
}

// P9 of the document: whatever comes

func TestWhateverComes(t *testing.T) {
	numbers := []int{math.MinInt, -1 << 32, -1, 0, 1, 2, 3, 4, 1023, 1024, 3999, 4000, 1<<15 - 1, 1 << 15, 1<<16 - 1, 1 << 16, 1 << 32, math.MaxInt}
	for seed := range int64(60) {
		r := rand.New(rand.NewSource(seed))
		wild := func() int { return numbers[r.Intn(len(numbers))] }
		x := of(t, chance(r))
		for range 400 {
			p := amd.Packet{Poll: r.Intn(2) == 0, Part: r.Intn(2) == 0, Last: r.Intn(4) == 0, FI: wild() % 5, SN: wild(), Offset: wild()}
			for range r.Intn(4) {
				p.Fields = append(p.Fields, make([]byte, []int{0, 1, 2, 500, api.MaxPDU - 4}[r.Intn(5)]))
			}
			before := stateOf(x)
			if l, e := x.Hear(p); e != api.OK {
				before.wants = before.wants || p.Poll && before.numbers[5] == 0
				if len(l) != 0 || stateOf(x) != before {
					t.Fatalf("Hear(%d): %q %v, %+v", p.SN, l, e, stateOf(x))
				}
			}
			x.Report(wild())
			x.Tick()
		}
	}
}
