package rxbuf_test

import (
	"maps"
	"math/rand"
	"slices"
	"testing"

	"bowline/amd"
	"bowline/api"
	"bowline/reseg"
	"bowline/rxbuf"
	"bowline/spans"
)

// model is a buffer word by word, byte by byte.
type model map[int]*modelPiece

type modelPiece struct {
	there       map[int]byte
	end         int // -1, if it is not known
	edges       map[int]bool
	noBeginning bool
	noEnd       bool
}

// missing is the gaps of a piece ahead of a place.
func (k *modelPiece) missing(to int) []spans.Span {
	var l []spans.Span
	for at := range to {
		if _, is := k.there[at]; is {
			continue
		}
		if n := len(l); n > 0 && l[n-1].To == at {
			l[n-1].To++
		} else {
			l = append(l, spans.Span{From: at, To: at + 1})
		}
	}
	return l
}

// last is the piece's last byte.
func (k *modelPiece) last() int { return slices.Max(slices.Collect(maps.Keys(k.there))) }

func (m model) state() state {
	s := state{numbers: slices.Sorted(maps.Keys(m))}
	for _, k := range m {
		s.bytes += len(k.there)
	}
	k := m[5]
	switch {
	case k == nil:
	case k.end < 0:
		s.missing = append(k.missing(k.last()), spans.Span{From: k.last() + 1, To: 0})
	default:
		s.missing = k.missing(k.end)
		s.whole = len(s.missing) == 0
	}
	return s
}

// put is Put of packets that may be.
func (m model) put(p amd.Packet) api.Errno {
	data := amd.Data(p)
	to := p.Offset + len(data)
	ends := !p.Part || p.Last
	if k := m[p.SN]; k != nil {
		all := true
		for at := p.Offset; at < to; at++ {
			_, is := k.there[at]
			all = all && is
		}
		switch {
		case k.end >= 0 && to > k.end, k.end >= 0 && ends && to != k.end, ends && k.last() >= to:
			return api.ErrForm
		case all:
			return api.ErrTwice
		}
	} else {
		m[p.SN] = &modelPiece{there: map[int]byte{}, end: -1, edges: map[int]bool{}}
	}
	k := m[p.SN]
	for i, c := range data {
		if _, is := k.there[p.Offset+i]; !is {
			k.there[p.Offset+i] = c
		}
	}
	if ends {
		k.end = to
		k.noEnd = k.noEnd || p.FI&1 != 0
	}
	if p.Offset == 0 {
		k.noBeginning = k.noBeginning || p.FI&2 != 0
	}
	at := p.Offset
	for i, field := range p.Fields {
		if i > 0 || at != 0 && p.FI&2 == 0 {
			k.edges[at] = true
		}
		at += len(field)
	}
	if !ends && p.FI&1 == 0 {
		k.edges[to] = true
	}
	return api.OK
}

// take is the FI and the fields of a whole piece.
func (m model) take(sn int) (int, []string) {
	k := m[sn]
	delete(m, sn)
	fi := 0
	if k.noBeginning {
		fi += 2
	}
	if k.noEnd {
		fi++
	}
	var l []string
	for at := range k.end {
		if at == 0 || k.edges[at] {
			l = append(l, "")
		}
		l[len(l)-1] += string([]byte{k.there[at]})
	}
	return fi, l
}

// randomPacket is a packet that may be put, of a number and of few places.
func randomPacket(r *rand.Rand, sn, places int) amd.Packet {
	p := amd.Packet{FI: r.Intn(4), SN: sn, Poll: r.Intn(2) == 0}
	if p.Part = r.Intn(12) > 0; p.Part {
		p.Offset = r.Intn(places)
		p.Last = r.Intn(6) == 0
	}
	for left := 1 + r.Intn(places-p.Offset); left > 0; {
		n := 1 + r.Intn(left)
		field := make([]byte, n)
		r.Read(field)
		p.Fields = append(p.Fields, field)
		left -= n
	}
	return p
}

func TestModel(t *testing.T) {
	met := map[api.Errno]int{}
	takes := 0
	for seed := range int64(400) {
		r := rand.New(rand.NewSource(seed))
		places := 1 + r.Intn(24)
		b, m := rxbuf.New(), model{}
		for range 150 {
			sn := 4 + r.Intn(3)
			switch r.Intn(40) {
			case 0:
				is := m[sn] != nil
				wantDrop(t, b, sn, map[bool]api.Errno{true: api.OK, false: api.ErrNone}[is])
				delete(m, sn)
			default:
				p := randomPacket(r, sn, places)
				want := m.put(p)
				if e := b.Put(p); e != want {
					t.Fatalf("Put(%s): %v, want %v", shown(p), e, want)
				}
				met[want]++
			}
			wantState(t, b, m.state())
			if b.Whole(5) && r.Intn(3) == 0 {
				fi, texts := m.take(5)
				wantTake(t, b, 5, fi, texts...)
				takes++
			}
		}
	}
	if met[api.OK] < 500 || met[api.ErrForm] < 500 || met[api.ErrTwice] < 500 || takes < 300 {
		t.Errorf("met %v, %d takes", met, takes)
	}
}

// P24.4

// whole is a packet of the number 5 as a sender has it.
func whole(r *rand.Rand) amd.Packet {
	p := randomPacket(r, 5, 1+r.Intn(60))
	p.Part, p.Last, p.Offset, p.Poll = false, false, 0, false
	return p
}

// TestPartsMakeThePacket: in whatever order they come, and however they overlap.
func TestPartsMakeThePacket(t *testing.T) {
	wholes, overlaps, asItIs := 0, 0, 0
	for seed := range int64(600) {
		r := rand.New(rand.NewSource(seed))
		p := whole(r)
		if !amd.Right(p, 10) {
			t.Fatalf("%s may not be", shown(p))
		}
		data := amd.Data(p)
		b := rxbuf.New()
		there := map[int]bool{}
		for len(there) < len(data) {
			from := r.Intn(len(data))
			to := from + 1 + r.Intn(len(data)-from)
			part, end, e := reseg.Cut(p, from, to, reseg.Least(10)+r.Intn(40), 10)
			if e != api.OK {
				t.Fatalf("Cut(%s, %d, %d): %v", shown(p), from, to, e)
			}
			before := len(there)
			for at := from; at < end; at++ {
				there[at] = true
			}
			want := api.OK
			switch {
			case before == len(there):
				want = api.ErrTwice
			case before+end-from > len(there):
				overlaps++
			}
			if !part.Part {
				asItIs++
			}
			if e := b.Put(part); e != want {
				t.Fatalf("Put(%s): %v, want %v", shown(part), e, want)
			}
			if b.Whole(5) != (len(there) == len(data)) || b.Bytes() != len(there) {
				t.Fatalf("whole %v, of %d bytes %d", b.Whole(5), len(data), len(there))
			}
		}
		var texts []string
		for _, field := range p.Fields {
			texts = append(texts, string(field))
		}
		wantTake(t, b, 5, p.FI, texts...)
		wholes++
	}
	if wholes < 500 || overlaps < 500 || asItIs < 50 {
		t.Errorf("%d packets, %d parts that overlap, %d as they are", wholes, overlaps, asItIs)
	}
}

// TestPartsOfMissing: cut to what the buffer says is missing, a packet is whole in few rounds.
func TestPartsOfMissing(t *testing.T) {
	for seed := range int64(200) {
		r := rand.New(rand.NewSource(seed))
		p := whole(r)
		size := len(amd.Data(p))
		b := rxbuf.New()
		wantPut(t, b, func() amd.Packet {
			from := r.Intn(size)
			part, _, _ := reseg.Cut(p, from, from+1, api.MaxGrant, 10)
			return part
		}())
		for !b.Whole(5) {
			for _, x := range b.Missing(5) {
				to := x.To
				if to == 0 {
					to = size
				}
				part, end, e := reseg.Cut(p, x.From, to, 6+r.Intn(9), 10)
				if e != api.OK {
					t.Fatal(e)
				}
				before := b.Bytes()
				wantPut(t, b, part)
				if b.Bytes() != before+end-x.From {
					t.Fatalf("%d bytes, %d ahead of %s", b.Bytes(), before, shown(part))
				}
			}
		}
		var texts []string
		for _, field := range p.Fields {
			texts = append(texts, string(field))
		}
		wantTake(t, b, 5, p.FI, texts...)
	}
}
