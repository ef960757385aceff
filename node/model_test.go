package node_test

import (
	"bytes"
	"math/rand"
	"slices"
	"testing"

	"bowline/api"
	"bowline/bearer"
	"bowline/mux"
	"bowline/node"
	"bowline/pdu"
	"bowline/split"
)

// model is a node word by word: a table, and what the chapter says of it.
type model struct {
	table      *bearer.Table
	rank, rate [32]int
	told       [32][]string
	bad, stray int
}

func (m *model) add(id int, c api.Config, rank, rate int) api.Errno {
	if rank < 1 || rank > 16 || rate < 0 || rate > api.MaxGrant {
		return api.ErrArg
	}
	e := m.table.Add(id, c)
	if e == api.OK {
		m.rank[id], m.rate[id] = rank, rate
	}
	return e
}

func (m *model) wants(id int) int {
	c, _ := m.table.Config(id)
	waits := m.table.Waits(id)
	want := 0
	switch {
	case c.Mode == api.TM && waits > 0:
		want = waits + 2
	case c.Mode == api.UM && waits > 0:
		want = waits + 40
	case c.Mode == api.AM:
		want = waits + 80
	}
	if want > api.MaxBytes {
		return api.MaxBytes
	}
	return want
}

func (m *model) grant(total int) ([]byte, api.Errno) {
	if total < 0 || total > api.MaxGrant {
		return nil, api.ErrArg
	}
	shared := total - 2
	if shared < 0 {
		shared = 0
	}
	var asks []split.Ask
	for _, id := range m.table.IDs() {
		asks = append(asks, split.Ask{ID: id, Rank: m.rank[id], Rate: m.rate[id], Want: m.wants(id)})
	}
	got, e := split.Share(shared, asks)
	if e != api.OK {
		panic(e)
	}
	var parts []mux.Part
	for rank := 1; rank <= 16; rank++ {
		for at, a := range asks {
			if a.Rank != rank || got[at] <= 2 {
				continue
			}
			grant := got[at] - 2
			if grant > 2047 {
				grant = 2047
			}
			if b, e := m.table.Build(a.ID, grant); e == api.OK {
				parts = append(parts, mux.Part{ID: a.ID, Data: b})
			}
		}
	}
	if len(parts) == 0 {
		return nil, api.ErrNone
	}
	return block(parts...), api.OK
}

func (m *model) hear(b []byte) api.Errno {
	parts, e := mux.Read(b)
	if e != api.OK {
		m.bad++
		return e
	}
	for _, p := range parts {
		texts, e := m.table.Hear(p.ID, p.Data)
		if !slices.Contains(m.table.IDs(), p.ID) {
			m.stray++
		} else if e == api.OK {
			m.tell(p.ID, texts)
		}
	}
	return api.OK
}

func (m *model) tick() {
	ids := m.table.IDs()
	for i, texts := range m.table.Tick() {
		m.tell(ids[i], texts)
	}
}

func (m *model) reset(id int) api.Errno {
	texts, e := m.table.Reset(id)
	if e == api.OK {
		m.tell(id, texts)
	}
	return e
}

func (m *model) tell(id int, texts [][]byte) {
	for _, text := range texts {
		m.told[id] = append(m.told[id], string(text))
	}
}

// side is a node, its model, and the blocks that are on their way to it.
type side struct {
	t      *testing.T
	r      *rand.Rand
	n      *node.Node
	m      *model
	blocks [][]byte
}

func newSide(t *testing.T, r *rand.Rand) *side {
	return &side{t: t, r: r, n: node.New(), m: &model{table: bearer.New()}}
}

func (s *side) add(id int, c api.Config, rank, rate int) api.Errno {
	s.t.Helper()
	want := s.m.add(id, c, rank, rate)
	wantAdd(s.t, s.n, id, c, rank, rate, want)
	return want
}

func (s *side) push(id int, text string) api.Errno {
	s.t.Helper()
	number, e := s.m.table.Push(id, []byte(text))
	wantPush(s.t, s.n, id, text, number, e)
	return e
}

func (s *side) discard(id int, text uint64) api.Errno {
	s.t.Helper()
	want := s.m.table.Discard(id, text)
	wantDiscard(s.t, s.n, id, text, want)
	return want
}

func (s *side) grant(total int, other *side) api.Errno {
	s.t.Helper()
	want, e := s.m.grant(total)
	b, f := s.n.Grant(total)
	if !bytes.Equal(b, want) || e != f || len(b) > max(total, 0) {
		s.t.Fatalf("Grant(%d): %x %v, want %x %v", total, b, f, want, e)
	}
	if e == api.OK {
		other.blocks = append(other.blocks, b)
	}
	return e
}

func (s *side) hear(b []byte) api.Errno {
	s.t.Helper()
	want := s.m.hear(b)
	wantHear(s.t, s.n, b, want)
	return want
}

// come lets some block come that was sent, perhaps turned, and perhaps not for the last time.
func (s *side) come() api.Errno {
	s.t.Helper()
	if len(s.blocks) == 0 {
		return s.hear(nil)
	}
	i := s.r.Intn(min(3, len(s.blocks)))
	b := s.blocks[i]
	if s.r.Intn(5) > 0 {
		s.blocks = slices.Delete(s.blocks, i, i+1)
	}
	if s.r.Intn(12) == 0 {
		b = bytes.Clone(b)
		b[s.r.Intn(len(b))] ^= byte(1 << s.r.Intn(8))
	}
	return s.hear(b)
}

// anyBlock is a block of parts that are often nothing to their bearers.
func (s *side) anyBlock() []byte {
	var l []mux.Part
	for range s.r.Intn(4) {
		data := make([]byte, 1+s.r.Intn(12))
		s.r.Read(data)
		l = append(l, mux.Part{ID: 1 + s.r.Intn(14), Data: data})
	}
	return block(l...)
}

func (s *side) reset(id int) api.Errno {
	s.t.Helper()
	want := s.m.reset(id)
	wantReset(s.t, s.n, id, want)
	return want
}

// wantAsTheModel wants that a side tells what its model does.
func (s *side) wantAsTheModel() {
	s.t.Helper()
	wantCounts(s.t, s.n, s.m.bad, s.m.stray)
	if l := s.n.Table().IDs(); !slices.Equal(l, s.m.table.IDs()) {
		s.t.Fatalf("there are %v, want %v", l, s.m.table.IDs())
	}
	for id := range 32 {
		wantTold(s.t, s.n, id, s.m.told[id]...)
		wantWaits(s.t, s.n, id, s.m.table.Waits(id))
	}
}

// chance is a config of any mode.
func chance(r *rand.Rand) api.Config {
	c := pdu.Usual(r.Intn(3))
	c.QueueBytes = 1 + r.Intn(600)
	if c.Mode == api.AM {
		c.PollRetx, c.Prohibit, c.MaxRetx = 1+r.Intn(6), r.Intn(3), 1+r.Intn(4)
	}
	return c
}

// step is a call at one of two sides that hear each other.
func step(s, other *side) (string, api.Errno) {
	r := s.r
	s.t.Helper()
	id := 1 + r.Intn(12)
	if ids := s.m.table.IDs(); len(ids) > 0 && r.Intn(4) > 0 {
		id = ids[r.Intn(len(ids))]
	}
	switch what := r.Intn(200); {
	case what < 8:
		c, rank, rate := chance(r), 1+r.Intn(4), r.Intn(60)
		if r.Intn(10) == 0 {
			rank, rate = r.Intn(20)-1, r.Intn(6000)-1000
		}
		id = 1 + r.Intn(14)
		e := s.add(id, c, rank, rate)
		other.add(id, c, rank, rate)
		return "add", e
	case what < 70:
		return "push", s.push(id, long(r.Intn(1+r.Intn(200))))
	case what < 80:
		return "discard", s.discard(id, uint64(r.Intn(20)))
	case what < 120:
		return "grant", s.grant([]int{-1, 0, 3, 4, 5, 6, 8, 10, 14, 20, 30, 50, 100, 100, 200, 500, 1000, 4096, 4097, r.Intn(300)}[r.Intn(20)], other)
	case what < 160:
		return "come", s.come()
	case what < 170:
		return "hear", s.hear(s.anyBlock())
	case what < 172:
		return "reset", s.reset(id)
	}
	s.m.tick()
	s.n.Tick()
	return "tick", api.OK
}

// P32.2, P32.3 and P32.4, whatever is done and heard.
func TestAsTheModel(t *testing.T) {
	type met struct {
		call string
		e    api.Errno
	}
	often := map[met]int{}
	told, most := 0, 0
	for seed := range int64(60) {
		r := rand.New(rand.NewSource(seed))
		sides := [2]*side{newSide(t, r), newSide(t, r)}
		for range 800 {
			at := r.Intn(2)
			call, e := step(sides[at], sides[1-at])
			often[met{call, e}]++
			sides[at].wantAsTheModel()
		}
		for _, s := range sides {
			s.wantAsTheModel()
			most = max(most, len(s.m.table.IDs()))
			for id := range 32 {
				told += len(s.m.told[id])
			}
		}
	}
	for call, errors := range map[string][]api.Errno{
		"add":     {api.OK, api.ErrArg, api.ErrTwice, api.ErrFull},
		"push":    {api.OK, api.ErrArg, api.ErrFull, api.ErrNone},
		"discard": {api.OK, api.ErrNone},
		"grant":   {api.OK, api.ErrArg, api.ErrNone},
		"come":    {api.OK, api.ErrShort, api.ErrSum},
		"hear":    {api.OK},
		"reset":   {api.OK, api.ErrNone},
	} {
		for _, e := range errors {
			if n := often[met{call, e}]; n < 20 {
				t.Errorf("%s told %v %d times", call, e, n)
			}
		}
	}
	if told < 2000 || most != api.MaxBearers {
		t.Errorf("%d texts were told, by at most %d bearers", told, most)
	}
}

// P32.5

// state is all that a node tells, but its counts.
func state(n *node.Node) [][]string {
	var l [][]string
	for id := range 32 {
		var texts []string
		for _, text := range n.Told(id) {
			texts = append(texts, string(text))
		}
		l = append(l, texts)
	}
	return l
}

// TestTurnedBlocks: a block of which bits are turned is none, and changes nothing but a count; then it comes as it was.
func TestTurnedBlocks(t *testing.T) {
	n := usual(t)
	wantHear(t, n, block(part(3, "x"), part(9, am(false, 1, "y")), part(17, um(1, 0, "z"))), api.OK)
	b := block(part(3, "a"), part(9, am(true, 0, "b")), part(17, um(0, 0, "c")))
	was := state(n)
	for bit := range 8 * len(b) {
		turned := bytes.Clone(b)
		turned[bit/8] ^= 0x80 >> (bit % 8)
		wantHear(t, n, turned, api.ErrSum)
		wantCounts(t, n, bit+1, 0)
		if !slices.EqualFunc(state(n), was, slices.Equal) {
			t.Fatalf("the bit %d turned changes what was told", bit)
		}
		if n.Table().Bad(3)+n.Table().Bad(9)+n.Table().Bad(17) > 0 {
			t.Fatalf("the bit %d turned is the bearers' fault", bit)
		}
	}
	wantNoGrant(t, n, 100, api.ErrNone)
	wantHear(t, n, b, api.OK)
	wantTold(t, n, 3, "x", "a")
	wantTold(t, n, 9, "b", "y")
	wantTold(t, n, 17, "c", "z")
}

// TestThereAndBack: two nodes that hear each other, of which no block is lost, tell what the other one's bearers were given.
func TestThereAndBack(t *testing.T) {
	ids := []int{3, 9, 17}
	for _, total := range []int{20, 30, 64, 200, 1000, api.MaxGrant} {
		r := rand.New(rand.NewSource(int64(total)))
		sides := [2]*side{newSide(t, r), newSide(t, r)}
		var pushed [2][32][]string
		for at, s := range sides {
			for mode, id := range ids {
				if e := s.add(id, pdu.Usual(mode), 1+at, 40); e != api.OK {
					t.Fatalf("Add: %v", e)
				}
				for range 10 {
					text := long(1 + r.Intn(min(total-4, 36))) // within its rate: one of TM is not cut, and the one of AM always wants its own
					if mode != api.TM {
						text = long(1 + r.Intn(500))
					}
					if s.push(id, text) == api.OK {
						pushed[at][id] = append(pushed[at][id], text)
					}
				}
			}
		}
		for range 3000 {
			for at, s := range sides {
				s.grant(total, sides[1-at])
				for len(s.blocks) > 0 {
					s.hear(s.blocks[0])
					s.blocks = s.blocks[1:]
				}
				s.m.tick()
				s.n.Tick()
			}
		}
		for at, s := range sides {
			s.wantAsTheModel()
			wantCounts(t, s.n, 0, 0)
			for _, id := range ids {
				wantTold(t, s.n, id, pushed[1-at][id]...)
				wantWaits(t, s.n, id, 0)
			}
		}
	}
}
