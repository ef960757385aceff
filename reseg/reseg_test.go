package reseg_test

import (
	"bytes"
	"math"
	"math/rand"
	"slices"
	"testing"

	"bowline/amd"
	"bowline/api"
	"bowline/glue"
	"bowline/reseg"
)

var (
	widths = []int{10, 16}
	// wrong is widths that may not be.
	wrong = []int{0, 1, 5, 8, 9, 11, 15, 17, 64, -1, -10, -16, math.MinInt, math.MaxInt, 10 + 1<<32}
	// grants is grants that may not be.
	grants = []int{-1, -2, math.MinInt, api.MaxGrant + 1, math.MaxInt, 1<<32 + 9}
)

// of is a packet with fields of some lengths, all bytes of which are unlike their neighbours.
func of(fi, sn int, lengths ...int) amd.Packet {
	p := amd.Packet{FI: fi, SN: sn}
	at := 0
	for _, n := range lengths {
		field := make([]byte, n)
		for i := range field {
			field[i] = byte('A' + at%191)
			at++
		}
		p.Fields = append(p.Fields, field)
	}
	return p
}

// texts is a packet with some fields.
func texts(fi, sn int, fields ...string) amd.Packet {
	p := amd.Packet{FI: fi, SN: sn}
	for _, f := range fields {
		p.Fields = append(p.Fields, []byte(f))
	}
	return p
}

// part is a part with some fields.
func part(fi, sn, offset int, last bool, fields ...string) amd.Packet {
	p := texts(fi, sn, fields...)
	p.Part, p.Offset, p.Last = true, offset, last
	return p
}

func polling(p amd.Packet) amd.Packet {
	p.Poll = true
	return p
}

// alike is so many times the same number.
func alike(n, many int) []int { return slices.Repeat([]int{n}, many) }

// full is lengths of so many fields with which a packet has MaxPDU bytes.
func full(many, width int) []int {
	l := alike(1, many)
	l[many-1] = 0
	l[many-1] = api.MaxPDU - amd.Head(false, width) - (many - 1) - lengthsBytes(many-1, width)
	return l
}

// lengthsBytes is how many bytes so many lengths have.
func lengthsBytes(many, width int) int {
	bits := 12
	if width == 16 {
		bits = 16
	}
	return (many*bits + 7) / 8
}

// written is how many bytes a packet has that may be.
func written(t *testing.T, p amd.Packet, width int) int {
	t.Helper()
	b, e := amd.Write(p, width)
	if e != api.OK {
		t.Fatalf("%v of %d may not be: %v", p, width, e)
	}
	return len(b)
}

// model is what Cut asks for of what may be, byte by byte.
func model(t *testing.T, p amd.Packet, from, to, grant, width int) (amd.Packet, int, api.Errno) {
	t.Helper()
	var data []byte
	begins, ends := map[int]int{}, map[int]int{}
	for _, f := range p.Fields {
		begins[len(data)]++
		data = append(data, f...)
		ends[len(data)]++
	}
	if from == 0 && to == len(data) && written(t, p, width) <= grant {
		p.Poll = false
		return p, to, api.OK
	}
	q := amd.Packet{SN: p.SN, Part: true, Offset: from}
	head, place := 4+width/16, from
	for place != to {
		left := min(grant, api.MaxPDU) - head - (place - from) - lengthsBytes(len(q.Fields), width)
		if left < 1 {
			break
		}
		var field []byte
		for place < to && len(field) < left {
			field = append(field, data[place])
			place++
			if ends[place] > 0 {
				break
			}
		}
		q.Fields = append(q.Fields, field)
	}
	if len(q.Fields) == 0 {
		return amd.Packet{}, 0, api.ErrGrant
	}
	if begins[from] == 0 || from == 0 && (p.FI == 2 || p.FI == 3) {
		q.FI += 2
	}
	if ends[place] == 0 || place == len(data) && (p.FI == 1 || p.FI == 3) {
		q.FI++
	}
	q.Last = place == len(data)
	return q, place, api.OK
}

// wantCut wants what goes, and where it ends; and that it fits, may be, and is its bytes of the data.
func wantCut(t *testing.T, p amd.Packet, from, to, grant, width int, want amd.Packet, end int) {
	t.Helper()
	q, at, e := reseg.Cut(p, from, to, grant, width)
	if !amd.Same(q, want) || at != end || e != api.OK {
		t.Fatalf("Cut(%v, %d, %d, %d, %d): %v, %d, %v, want %v, %d", p, from, to, grant, width, q, at, e, want, end)
	}
	if n := written(t, q, width); n > grant || n > api.MaxPDU {
		t.Fatalf("Cut(%v, %d, %d, %d, %d) has %d bytes", p, from, to, grant, width, n)
	}
	if at <= from || at > to || !bytes.Equal(amd.Data(q), amd.Data(p)[from:at]) {
		t.Fatalf("Cut(%v, %d, %d, %d, %d) has the bytes %q, to %d", p, from, to, grant, width, amd.Data(q), at)
	}
	if q.Poll {
		t.Fatalf("Cut(%v, %d, %d, %d, %d) polls", p, from, to, grant, width)
	}
}

func wantNone(t *testing.T, p amd.Packet, from, to, grant, width int, want api.Errno) {
	t.Helper()
	q, at, e := reseg.Cut(p, from, to, grant, width)
	if !amd.Same(q, amd.Packet{}) || q.Fields != nil || at != 0 || e != want {
		t.Fatalf("Cut(%v, %d, %d, %d, %d): %v, %d, %v, want %v", p, from, to, grant, width, q, at, e, want)
	}
}

// wantModel wants what the model says.
func wantModel(t *testing.T, p amd.Packet, from, to, grant, width int) api.Errno {
	t.Helper()
	q, at, e := model(t, p, from, to, grant, width)
	if e != api.OK {
		wantNone(t, p, from, to, grant, width, e)
	} else {
		wantCut(t, p, from, to, grant, width, q, at)
	}
	return e
}

// P20.1

func TestLeast(t *testing.T) {
	if n := reseg.Least(10); n != 5 {
		t.Errorf("of 10 bits: %d", n)
	}
	if n := reseg.Least(16); n != 6 {
		t.Errorf("of 16 bits: %d", n)
	}
	for _, width := range wrong {
		if n := reseg.Least(width); n != 0 {
			t.Errorf("of %d bits: %d", width, n)
		}
	}
}

func TestExample(t *testing.T) {
	p := texts(0, 7, "ab", "cd")
	wantCut(t, p, 1, 4, 9, 10, part(2, 7, 1, true, "b", "cd"), 4)
}

func TestEachGrant(t *testing.T) {
	p := polling(texts(0, 7, "ab", "cd", "efg"))
	for _, width := range widths {
		least := reseg.Least(width)
		size := written(t, p, width)
		behind := lengthsBytes(2, width) - lengthsBytes(1, width) // the second length
		for grant := range api.MaxGrant + 1 {
			switch room := grant - least + 1; {
			case room < 1:
				wantNone(t, p, 0, 7, grant, width, api.ErrGrant)
			case grant >= size:
				wantCut(t, p, 0, 7, grant, width, texts(0, 7, "ab", "cd", "efg"), 7)
			case room == 1:
				wantCut(t, p, 0, 7, grant, width, part(1, 7, 0, false, "a"), 1)
			case room < 5:
				wantCut(t, p, 0, 7, grant, width, part(0, 7, 0, false, "ab"), 2)
			case room == 5:
				wantCut(t, p, 0, 7, grant, width, part(1, 7, 0, false, "ab", "c"), 3)
			case room < 7+behind:
				wantCut(t, p, 0, 7, grant, width, part(0, 7, 0, false, "ab", "cd"), 4)
			default:
				rest := "efg"[:room-6-behind]
				wantCut(t, p, 0, 7, grant, width, part(1, 7, 0, false, "ab", "cd", rest), 4+len(rest))
			}
		}
	}
}

// TestWhole: it goes as it is just when these are all its data, and it fits as it is; as a part it would have more bytes.
func TestWhole(t *testing.T) {
	for _, width := range widths {
		for fi := range 4 {
			p := polling(texts(fi, 1023, "abc", "defg"))
			whole := texts(fi, 1023, "abc", "defg")
			size := written(t, p, width)
			wantCut(t, p, 0, 7, size, width, whole, 7)
			wantCut(t, p, 0, 7, size+1, width, whole, 7)
			wantCut(t, p, 0, 7, api.MaxGrant, width, whole, 7)
			wantCut(t, p, 0, 7, size-1, width, part(fi|1, 1023, 0, false, "abc", "d"), 4)
			// not all of it is a part, however great the grant
			wantCut(t, p, 0, 6, api.MaxGrant, width, part(fi|1, 1023, 0, false, "abc", "def"), 6)
			wantCut(t, p, 1, 7, api.MaxGrant, width, part(fi&1|2, 1023, 1, true, "bc", "defg"), 7)
			wantCut(t, p, 0, 3, api.MaxGrant, width, part(fi&2, 1023, 0, false, "abc"), 3)
			wantCut(t, p, 3, 7, api.MaxGrant, width, part(fi&1, 1023, 3, true, "defg"), 7)
		}
	}
}

func TestFI(t *testing.T) {
	for _, c := range []struct{ from, to, of0, of1, of2, of3 int }{
		{0, 1, 1, 1, 3, 3},
		{0, 2, 0, 0, 2, 2},
		{0, 3, 1, 1, 3, 3},
		{0, 4, 0, 0, 2, 2},
		{0, 5, 1, 1, 3, 3},
		{1, 2, 2, 2, 2, 2},
		{1, 3, 3, 3, 3, 3},
		{1, 6, 2, 3, 2, 3},
		{2, 3, 1, 1, 1, 1},
		{2, 4, 0, 0, 0, 0},
		{2, 6, 0, 1, 0, 1},
		{3, 4, 2, 2, 2, 2},
		{3, 5, 3, 3, 3, 3},
		{4, 6, 0, 1, 0, 1},
		{5, 6, 2, 3, 2, 3},
	} {
		for fi, want := range []int{c.of0, c.of1, c.of2, c.of3} {
			for _, width := range widths {
				q, end, e := reseg.Cut(texts(fi, 3, "ab", "cd", "ef"), c.from, c.to, 100, width)
				if q.FI != want || end != c.to || e != api.OK || q.Last != (c.to == 6) || q.Offset != c.from {
					t.Errorf("FI %d, from %d to %d: %v, %d, %v, want FI %d", fi, c.from, c.to, q, end, e, want)
				}
			}
		}
	}
}

func TestErrForm(t *testing.T) {
	good := texts(0, 5, "abcd")
	for _, p := range []amd.Packet{
		{},
		part(0, 5, 0, false, "abcd"),
		part(0, 5, 0, true, "abcd"),
		part(0, 5, 9, true, "abcd"),
		{SN: 5, Last: true, Fields: good.Fields},
		{SN: 5, Offset: 1, Fields: good.Fields},
		{SN: 5, Offset: -1, Fields: good.Fields},
		texts(0, 5),
		texts(0, 5, ""),
		texts(0, 5, "abcd", ""),
		texts(0, 5, "", "abcd"),
		texts(4, 5, "abcd"),
		texts(-1, 5, "abcd"),
		texts(0, -1, "abcd"),
		texts(0, 1<<16, "abcd"),
		texts(0, math.MaxInt, "abcd"),
		of(0, 5, alike(1, api.MaxFields+1)...),
		of(0, 5, api.MaxLen+1, 4),
		of(0, 5, api.MaxPDU),
		{SN: 5, Fields: make([][]byte, 1<<20)},
	} {
		for _, width := range widths {
			wantNone(t, p, 0, 4, 100, width, api.ErrForm)
			wantNone(t, p, 1, 2, 100, width, api.ErrForm)
			// it comes ahead of all others
			wantNone(t, p, 0, 4, 0, width, api.ErrForm)
			wantNone(t, p, 0, 4, -1, width, api.ErrForm)
			wantNone(t, p, -1, 9, 100, width, api.ErrForm)
		}
	}
	for _, width := range wrong {
		wantNone(t, good, 0, 4, 100, width, api.ErrForm)
		wantNone(t, good, -1, 4, -1, width, api.ErrForm)
	}
	// a number of 16 bits is none of 10
	wantNone(t, texts(0, 1024, "abcd"), 0, 4, 100, 10, api.ErrForm)
	wantCut(t, texts(0, 1024, "abcd"), 0, 4, 100, 16, texts(0, 1024, "abcd"), 4)
	wantCut(t, texts(0, 1<<16-1, "abcd"), 0, 2, 100, 16, part(1, 1<<16-1, 0, false, "ab"), 2)
}

func TestErrArg(t *testing.T) {
	p := texts(0, 5, "ab", "cd")
	for _, width := range widths {
		for _, grant := range grants {
			wantNone(t, p, 0, 4, grant, width, api.ErrArg)
			wantNone(t, p, 1, 2, grant, width, api.ErrArg)
			wantNone(t, p, 3, 2, grant, width, api.ErrArg)
		}
		for _, c := range [][2]int{
			{-1, 4}, {-1, 0}, {math.MinInt, 4}, {math.MinInt, math.MaxInt}, {math.MaxInt, math.MinInt},
			{0, 0}, {1, 1}, {4, 4}, {3, 2}, {1, 0}, {0, -1}, {0, math.MinInt},
			{0, 5}, {3, 5}, {4, 5}, {5, 6}, {0, math.MaxInt}, {3, math.MaxInt}, {4, 0}, {5, 4},
		} {
			wantNone(t, p, c[0], c[1], 100, width, api.ErrArg)
			wantNone(t, p, c[0], c[1], api.MaxGrant, width, api.ErrArg)
			// it comes ahead of ErrGrant
			wantNone(t, p, c[0], c[1], 0, width, api.ErrArg)
		}
	}
	wantCut(t, p, 3, 4, api.MaxGrant, 10, part(2, 5, 3, true, "d"), 4)
}

func TestErrGrant(t *testing.T) {
	for _, width := range widths {
		least := reseg.Least(width)
		p := texts(0, 5, "ab", "cd")
		for from := range 4 {
			for to := from + 1; to <= 4; to++ {
				for grant := range least {
					wantNone(t, p, from, to, grant, width, api.ErrGrant)
				}
				q, end, e := reseg.Cut(p, from, to, least, width)
				if e != api.OK || len(q.Fields) != 1 || len(q.Fields[0]) != 1 || end != from+1 {
					t.Errorf("Cut from %d to %d: %v, %d, %v", from, to, q, end, e)
				}
			}
		}
		// a packet of few bytes goes as it is by a grant with which no part would
		head := amd.Head(false, width)
		short := texts(3, 5, "a")
		wantCut(t, short, 0, 1, head+1, width, short, 1)
		wantNone(t, short, 0, 1, head, width, api.ErrGrant)
		wantNone(t, short, 0, 1, 0, width, api.ErrGrant)
	}
}

func TestAllSmall(t *testing.T) {
	met := map[api.Errno]int{}
	for _, width := range widths {
		for _, lengths := range [][]int{
			{1}, {2}, {3}, {8}, {1, 1}, {2, 2}, {1, 3}, {3, 1}, {1, 1, 1}, {2, 1, 3}, {3, 4, 1, 2}, {1, 1, 1, 1, 1}, alike(1, 9),
		} {
			for fi := range 4 {
				p := of(fi, 9*fi, lengths...)
				p.Poll = len(lengths)%2 == 0
				all := len(amd.Data(p))
				for from := range all {
					for to := from + 1; to <= all; to++ {
						for grant := range 36 {
							met[wantModel(t, p, from, to, grant, width)]++
						}
					}
				}
			}
		}
	}
	if met[api.OK] == 0 || met[api.ErrGrant] == 0 {
		t.Errorf("met %v", met)
	}
}

// some is a packet that may be, whose fields are at most so long.
func some(r *rand.Rand, width, longest int) amd.Packet {
	lengths := make([]int, 1+r.Intn(api.MaxFields))
	for i := range lengths {
		lengths[i] = 1 + r.Intn(longest)
	}
	p := of(r.Intn(4), r.Intn(1<<width), lengths...)
	p.Poll = r.Intn(2) == 0
	return p
}

func TestAny(t *testing.T) {
	r := rand.New(rand.NewSource(20))
	for range 20000 {
		width := widths[r.Intn(2)]
		p := some(r, width, []int{1, 2, 5, 20, 150}[r.Intn(5)])
		all := len(amd.Data(p))
		from := r.Intn(2) * r.Intn(all)
		to := all - r.Intn(2)*r.Intn(all-from)
		wantModel(t, p, from, to, r.Intn(all+60), width)
	}
}

// TestLongest: what goes has at most MaxPDU bytes, though a grant may be greater.
func TestLongest(t *testing.T) {
	for _, width := range widths {
		for _, many := range []int{1, 2, 3, api.MaxFields} {
			p := of(0, 5, full(many, width)...)
			all := len(amd.Data(p))
			if n := written(t, p, width); n != api.MaxPDU {
				t.Fatalf("%d fields have %d bytes", many, n)
			}
			wantCut(t, p, 0, all, api.MaxPDU, width, p, all)
			wantCut(t, p, 0, all, api.MaxGrant, width, p, all)
			for _, grant := range []int{api.MaxPDU - 1, api.MaxPDU, api.MaxPDU + 1, api.MaxGrant} {
				wantModel(t, p, 0, all, grant, width)
				for cut := 1; cut < 5; cut++ {
					wantModel(t, p, 0, all-cut, grant, width)
					wantModel(t, p, cut, all, grant, width)
				}
			}
			// a part's head has two bytes more
			if _, end, e := reseg.Cut(p, 0, all-1, api.MaxGrant, width); e != api.OK || end != all-2 {
				t.Errorf("%d fields: to %d of %d, %v", many, end, all, e)
			}
		}
		longest := of(1, 5, api.MaxLen, api.MaxLen-100)
		for _, from := range []int{0, 1, api.MaxLen - 1, api.MaxLen, api.MaxLen + 1} {
			for grant := reseg.Least(width); grant <= api.MaxGrant; grant += 13 {
				wantModel(t, longest, from, 2*api.MaxLen-100, grant, width)
			}
		}
	}
}

func TestMostFields(t *testing.T) {
	for _, width := range widths {
		p := of(3, 5, alike(2, api.MaxFields)...)
		all := 2 * api.MaxFields
		for grant := range written(t, p, width) + 5 {
			wantModel(t, p, 0, all, grant, width)
			wantModel(t, p, 1, all, grant, width)
			wantModel(t, p, 0, all-1, grant, width)
		}
		// the last field that may be is cut short: no other one follows, though lens tells no size of so many lengths
		room := reseg.Least(width) - 1 + all - 2 + lengthsBytes(api.MaxFields-1, width)
		q, end, e := reseg.Cut(p, 1, all, room, width)
		if len(q.Fields) != api.MaxFields || end != all-1 || q.FI != 3 || q.Last || e != api.OK {
			t.Errorf("%d fields, to %d, FI %d, last %v, %v", len(q.Fields), end, q.FI, q.Last, e)
		}
		q, end, e = reseg.Cut(p, 1, all-1, api.MaxGrant, width)
		if len(q.Fields) != api.MaxFields || end != all-1 || e != api.OK {
			t.Errorf("%d fields, to %d, %v", len(q.Fields), end, e)
		}
	}
}

// P20.2 holds of all that wantCut wants.

// P20.3

// cutWhole cuts a packet one behind the other.
func cutWhole(t *testing.T, p amd.Packet, width int, grant func() int) []amd.Packet {
	t.Helper()
	var l []amd.Packet
	all := len(amd.Data(p))
	for at := 0; at < all; {
		q, end, e := reseg.Cut(p, at, all, grant(), width)
		if e != api.OK || end <= at {
			t.Fatalf("from %d: to %d, %v", at, end, e)
		}
		if q.Part && (q.Offset != at || q.Last != (end == all)) {
			t.Fatalf("from %d to %d of %d: %v", at, end, all, q)
		}
		l = append(l, q)
		at = end
	}
	return l
}

// wantGlued wants that packets, put together behind a text's beginning or behind none, are what one packet is.
func wantGlued(t *testing.T, p amd.Packet, l []amd.Packet) {
	t.Helper()
	for _, held := range []string{"", "held"} {
		a, b := glue.New(), glue.New()
		if held != "" {
			a.Put(1, [][]byte{[]byte(held)}, false)
			b.Put(1, [][]byte{[]byte(held)}, false)
		}
		want, e := a.Put(p.FI, p.Fields, false)
		if e != api.OK {
			t.Fatalf("Put: %v", e)
		}
		var told [][]byte
		for _, q := range l {
			some, e := b.Put(q.FI, q.Fields, false)
			if e != api.OK {
				t.Fatalf("Put(%v): %v", q, e)
			}
			told = append(told, some...)
		}
		if !slices.EqualFunc(told, want, bytes.Equal) || a.Held() != b.Held() || a.Lost() != b.Lost() {
			t.Fatalf("%v: %q, held %d, lost %d, want %q, %d, %d", p, told, b.Held(), b.Lost(), want, a.Held(), a.Lost())
		}
	}
}

func TestPartsAreThePacket(t *testing.T) {
	r := rand.New(rand.NewSource(203))
	for range 2000 {
		width := widths[r.Intn(2)]
		p := some(r, width, []int{1, 3, 12, 150}[r.Intn(4)])
		least, most := reseg.Least(width), 1+r.Intn(200)
		wantGlued(t, p, cutWhole(t, p, width, func() int { return least + r.Intn(most) }))
	}
}

func TestByTheLeast(t *testing.T) {
	for _, width := range widths {
		for fi := range 4 {
			p := polling(of(fi, 5, 3, 1, 4, 1, 5, 9, 2, 6))
			l := cutWhole(t, p, width, func() int { return reseg.Least(width) })
			if len(l) != len(amd.Data(p)) {
				t.Errorf("%d parts of %d bytes", len(l), len(amd.Data(p)))
			}
			for _, q := range l {
				if !q.Part || len(q.Fields) != 1 || len(q.Fields[0]) != 1 || q.SN != 5 {
					t.Errorf("a part %v", q)
				}
			}
			wantGlued(t, p, l)
		}
	}
}

// rules 3, 4 and 5 of the document

func TestWhatIsHandedInStays(t *testing.T) {
	under := []byte("abcdefgh")
	list := [][]byte{under[:2], under[3:6], []byte("behind")}
	for _, grant := range []int{5, 9, 100} {
		for _, c := range [][2]int{{0, 5}, {0, 1}, {1, 4}} {
			p := amd.Packet{Poll: true, FI: 1, SN: 5, Fields: list[:2]}
			q, _, e := reseg.Cut(p, c[0], c[1], grant, 10)
			if e != api.OK {
				t.Fatalf("Cut: %v", e)
			}
			// what is put behind what goes meets nothing of what was handed in
			for _, f := range q.Fields {
				_ = append(f, "zzzz"...)
			}
			_ = append(q.Fields, []byte("zzzz"))
			if string(under) != "abcdefgh" || string(list[2]) != "behind" || !p.Poll || p.Part || len(p.Fields) != 2 {
				t.Fatalf("what was handed in is changed: %v, %q", p, under)
			}
		}
	}
}

func TestPartsAreNewMemory(t *testing.T) {
	p := texts(0, 5, "abc", "def", "ghi")
	q, end, e := reseg.Cut(p, 1, 8, 100, 10)
	if e != api.OK || end != 8 {
		t.Fatalf("Cut: %d, %v", end, e)
	}
	for _, f := range q.Fields {
		for i := range f {
			f[i] = 'z'
		}
	}
	if !amd.Same(p, texts(0, 5, "abc", "def", "ghi")) {
		t.Errorf("a part shares its memory: %v", p)
	}
	_ = append(q.Fields[0], "yyyy"...)
	if !amd.Same(q, part(3, 5, 1, false, "zz", "zzz", "zz")) {
		t.Errorf("fields share their memory: %v", q)
	}
	for _, f := range q.Fields {
		if cap(f) != len(f) {
			t.Errorf("there is room for %d behind", cap(f)-len(f))
		}
	}
	if l := q.Fields; cap(l) != len(l) {
		t.Errorf("there is room for %d fields behind", cap(l)-len(l))
	}
	one, _, _ := reseg.Cut(p, 1, 8, 100, 10)
	two, _, _ := reseg.Cut(p, 1, 8, 100, 10)
	one.Fields[0][0] = 'z'
	if !amd.Same(two, part(3, 5, 1, false, "bc", "def", "gh")) {
		t.Errorf("two parts share their memory: %v", two)
	}
}
