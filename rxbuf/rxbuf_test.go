package rxbuf_test

import (
	"bytes"
	"fmt"
	"math"
	"reflect"
	"slices"
	"strings"
	"testing"

	"bowline/amd"
	"bowline/api"
	"bowline/rxbuf"
	"bowline/spans"
)

// wrongNumbers is of what no buffer has a piece here.
var wrongNumbers = []int{-1, 6, 1 << 10, 1 << 16, 1 << 32, math.MinInt, math.MaxInt}

// list is fields of texts, or texts of fields.
func list(texts ...string) [][]byte {
	var l [][]byte
	for _, text := range texts {
		l = append(l, []byte(text))
	}
	return l
}

// of is a packet that is no part, of the number 5.
func of(fi int, texts ...string) amd.Packet { return amd.Packet{FI: fi, SN: 5, Fields: list(texts...)} }

// part is a part of the packet 5.
func part(fi, offset int, texts ...string) amd.Packet {
	p := of(fi, texts...)
	p.Part, p.Offset = true, offset
	return p
}

// last is a part of the packet 5 that ends the data.
func last(fi, offset int, texts ...string) amd.Packet {
	p := part(fi, offset, texts...)
	p.Last = true
	return p
}

// numbered is a packet of another number.
func numbered(sn int, p amd.Packet) amd.Packet {
	p.SN = sn
	return p
}

// shown is a packet as a text.
func shown(p amd.Packet) string { return fmt.Sprintf("%+v", p) }

// some is a text of so many bytes.
func some(many int) string { return strings.Repeat("x", many) }

// state is what there is to ask of a buffer, of the number 5.
type state struct {
	numbers []int
	bytes   int
	whole   bool
	missing []spans.Span
}

func (a state) is(b state) bool {
	return slices.Equal(a.numbers, b.numbers) && a.bytes == b.bytes && a.whole == b.whole && slices.Equal(a.missing, b.missing)
}

func stateOf(b *rxbuf.Buffer) state {
	return state{b.Numbers(), b.Bytes(), b.Whole(5), b.Missing(5)}
}

func wantState(t *testing.T, b *rxbuf.Buffer, want state) {
	t.Helper()
	if s := stateOf(b); !s.is(want) {
		t.Fatalf("state %+v, want %+v", s, want)
	}
}

// want5 is the state if there is the piece 5 alone: how many bytes, and what is missing, from and to.
func want5(t *testing.T, b *rxbuf.Buffer, many int, missing ...int) {
	t.Helper()
	wantState(t, b, state{[]int{5}, many, len(missing) == 0, spansOf(missing...)})
}

func spansOf(ends ...int) []spans.Span {
	var l []spans.Span
	for i := 0; i < len(ends); i += 2 {
		l = append(l, spans.Span{From: ends[i], To: ends[i+1]})
	}
	return l
}

func wantPut(t *testing.T, b *rxbuf.Buffer, packets ...amd.Packet) {
	t.Helper()
	for _, p := range packets {
		if e := b.Put(p); e != api.OK {
			t.Fatalf("Put(%.200s): %v", shown(p), e)
		}
	}
}

func wantNoPut(t *testing.T, b *rxbuf.Buffer, p amd.Packet, want api.Errno) {
	t.Helper()
	before, missing := stateOf(b), b.Missing(p.SN)
	if e := b.Put(p); e != want {
		t.Fatalf("Put(%.200s): %v, want %v", shown(p), e, want)
	}
	wantState(t, b, before)
	if !slices.Equal(b.Missing(p.SN), missing) {
		t.Fatalf("of %d are missing %v, want %v", p.SN, b.Missing(p.SN), missing)
	}
}

// wantTake takes a piece that is whole.
func wantTake(t *testing.T, b *rxbuf.Buffer, sn, fi int, texts ...string) {
	t.Helper()
	if !b.Whole(sn) || len(b.Missing(sn)) != 0 {
		t.Fatalf("%d: whole %v, missing %v", sn, b.Whole(sn), b.Missing(sn))
	}
	many := b.Bytes()
	got, l, e := b.Take(sn)
	if got != fi || !reflect.DeepEqual(l, list(texts...)) || e != api.OK {
		t.Fatalf("Take(%d): %d %.20q %v, want %d %.20q", sn, got, l, e, fi, texts)
	}
	for _, text := range texts {
		many -= len(text)
	}
	if slices.Contains(b.Numbers(), sn) || b.Bytes() != many || b.Whole(sn) || b.Missing(sn) != nil {
		t.Fatalf("behind Take(%d): %+v", sn, stateOf(b))
	}
	wantNoTake(t, b, sn, api.ErrNone)
}

func wantNoTake(t *testing.T, b *rxbuf.Buffer, sn int, want api.Errno) {
	t.Helper()
	before := stateOf(b)
	if fi, l, e := b.Take(sn); fi != 0 || len(l) != 0 || e != want {
		t.Fatalf("Take(%d): %d %q %v, want %v", sn, fi, l, e, want)
	}
	wantState(t, b, before)
}

func wantDrop(t *testing.T, b *rxbuf.Buffer, sn int, want api.Errno) {
	t.Helper()
	if e := b.Drop(sn); e != want {
		t.Fatalf("Drop(%d): %v, want %v", sn, e, want)
	}
}

// wantTaken is what parts, put one behind the other, make.
func wantTaken(t *testing.T, packets []amd.Packet, fi int, texts ...string) {
	t.Helper()
	b := rxbuf.New()
	wantPut(t, b, packets...)
	wantTake(t, b, 5, fi, texts...)
}

// P24.1

func TestNew(t *testing.T) {
	b := rxbuf.New()
	wantState(t, b, state{})
	wantNoTake(t, b, 5, api.ErrNone)
	wantDrop(t, b, 5, api.ErrNone)
	wantState(t, b, state{})
}

func TestNoBuffer(t *testing.T) {
	for _, b := range []*rxbuf.Buffer{nil, {}} {
		for range 2 {
			wantState(t, b, state{})
			for _, p := range []amd.Packet{{}, of(0, "a"), part(0, 2, "a"), last(9, -1)} {
				wantNoPut(t, b, p, api.ErrNil)
			}
			for _, sn := range append(wrongNumbers, 0, 5) {
				wantNoTake(t, b, sn, api.ErrNil)
				wantDrop(t, b, sn, api.ErrNil)
				if b.Whole(sn) || b.Missing(sn) != nil {
					t.Errorf("%d: whole %v, missing %v", sn, b.Whole(sn), b.Missing(sn))
				}
			}
		}
	}
}

func TestCalls(t *testing.T) {
	var names []string
	for m := range reflect.TypeFor[*rxbuf.Buffer]().Methods() {
		names = append(names, m.Name)
	}
	want := []string{"Bytes", "Drop", "Missing", "Numbers", "Put", "Take", "Whole"}
	if !slices.Equal(names, want) {
		t.Errorf("the calls %v, want %v", names, want)
	}
}

// TestNumbers: rising, of whatever numbers packets have.
func TestNumbers(t *testing.T) {
	b := rxbuf.New()
	for _, sn := range []int{7, math.MaxInt, -3, 5, 1 << 20, math.MinInt, 0, 6} {
		wantPut(t, b, numbered(sn, part(0, 2, "ab")))
	}
	want := []int{math.MinInt, -3, 0, 5, 6, 7, 1 << 20, math.MaxInt}
	wantState(t, b, state{want, 16, false, spansOf(0, 2, 4, 0)})
	wantDrop(t, b, 0, api.OK)
	wantPut(t, b, numbered(6, of(0, "abcd")), numbered(-3, last(0, 4, "e")))
	want = []int{math.MinInt, -3, 5, 6, 7, 1 << 20, math.MaxInt}
	wantState(t, b, state{want, 17, false, spansOf(0, 2, 4, 0)})
}

// TestBytes: of all pieces, each once.
func TestBytes(t *testing.T) {
	b := rxbuf.New()
	for _, c := range []struct {
		p    amd.Packet
		many int
	}{
		{part(0, 3, "abc"), 3},
		{part(0, 4, "xyz"), 4},
		{numbered(6, part(0, 4, "xyz")), 7},
		{numbered(6, last(0, 10, "xyz")), 10},
		{part(0, 0, some(20)), 26},
		{numbered(7, of(0, "a", "b", "c")), 29},
	} {
		wantPut(t, b, c.p)
		if n := b.Bytes(); n != c.many {
			t.Fatalf("behind %+v: %d bytes, want %d", c.p, n, c.many)
		}
	}
}

// TestMissing: ahead of the end, and behind the last byte, as long as the end is not known.
func TestMissing(t *testing.T) {
	b := rxbuf.New()
	wantPut(t, b, part(0, 2, "cd"))
	want5(t, b, 2, 0, 2, 4, 0)
	wantPut(t, b, part(0, 8, "i"))
	want5(t, b, 3, 0, 2, 4, 8, 9, 0)
	wantPut(t, b, part(0, 0, "ab"))
	want5(t, b, 5, 4, 8, 9, 0)
	wantPut(t, b, part(0, 5, "fgh"))
	want5(t, b, 8, 4, 5, 9, 0)
	wantPut(t, b, part(0, 4, "e"))
	want5(t, b, 9, 9, 0)
	wantPut(t, b, last(0, 11, "l"))
	want5(t, b, 10, 9, 11)
	wantPut(t, b, part(0, 9, "j"))
	want5(t, b, 11, 10, 11)
	wantPut(t, b, part(0, 10, "k"))
	want5(t, b, 12)
	for _, sn := range wrongNumbers {
		if b.Whole(sn) || b.Missing(sn) != nil {
			t.Errorf("%d: whole %v, missing %v", sn, b.Whole(sn), b.Missing(sn))
		}
	}
}

// TestWhole: not without the end, nor without one byte.
func TestWhole(t *testing.T) {
	b := rxbuf.New()
	wantPut(t, b, part(0, 0, "ab"))
	want5(t, b, 2, 2, 0)
	wantPut(t, b, last(0, 2, "c"))
	want5(t, b, 3)
	wantPut(t, b, numbered(6, last(0, 1, "c")))
	if b.Whole(6) || !b.Whole(5) {
		t.Errorf("6 whole %v, 5 whole %v", b.Whole(6), b.Whole(5))
	}
	wantPut(t, b, numbered(6, part(0, 0, "a")))
	if !b.Whole(6) {
		t.Error("6 is not whole")
	}
	b = rxbuf.New()
	wantPut(t, b, of(0, "abc"))
	want5(t, b, 3)
}

// P24.2

func TestExample(t *testing.T) {
	b := rxbuf.New()
	wantPut(t, b, part(1, 0, "ab"))
	want5(t, b, 2, 2, 0)
	wantNoTake(t, b, 5, api.ErrShort)
	wantPut(t, b, last(2, 2, "cd"))
	wantTake(t, b, 5, 0, "abcd")
}

func TestWrongPackets(t *testing.T) {
	var many []string
	for range api.MaxFields + 1 {
		many = append(many, "a")
	}
	poll := of(0)
	poll.Poll = true
	wrong := []amd.Packet{
		{}, poll, part(0, 0), last(0, 4), // no fields
		of(0, many...), part(0, 3, many...),
		of(0, ""), of(0, "a", ""), of(0, "", "a"), of(0, "a", "", "b"), part(0, 3, ""), last(0, 3, "a", ""),
		of(-1, "a"), of(4, "a"), of(math.MinInt, "a"), of(math.MaxInt, "a"), part(4, 1, "a"), of(1<<32+1, "a"),
		part(0, -1, "a"), last(0, -1, "a"), part(0, math.MinInt, "a"), part(0, -1, some(5)),
		of(0, some(api.MaxPDU+1)), of(0, some(api.MaxPDU), "a"), of(0, "a", some(api.MaxPDU)),
		of(0, some(3000), some(3000)), of(0, some(1<<16)),
		part(0, api.MaxPDU, "a"), part(0, api.MaxPDU+1, "a"), part(0, api.MaxPDU-1, "ab"),
		last(0, api.MaxPDU-1, "a", "b"), part(0, 1, some(api.MaxPDU)),
		part(0, math.MaxInt, "a"), part(0, math.MaxInt-1, "a", "b"), part(0, 1<<32, "a"), last(0, 1<<16, "a"),
	}
	for _, offset := range []int{1, -1, 3, api.MaxPDU, math.MinInt, math.MaxInt} { // of what is no part
		p := of(0, "a")
		p.Offset = offset
		wrong = append(wrong, p)
		p.Last = true
		wrong = append(wrong, p)
	}
	b := rxbuf.New()
	for _, p := range wrong {
		wantNoPut(t, b, p, api.ErrArg)
		wantNoPut(t, b, numbered(-7, p), api.ErrArg)
	}
	wantState(t, b, state{})
	// with a piece, too, of which all errors apply else
	wantPut(t, b, of(0, "a"))
	for _, p := range wrong {
		wantNoPut(t, b, p, api.ErrArg)
	}
	wantTake(t, b, 5, 0, "a")
}

// TestGreatestPackets: as many fields and as many bytes as may be.
func TestGreatestPackets(t *testing.T) {
	var many []string
	for range api.MaxFields {
		many = append(many, "a")
	}
	most := some(api.MaxPDU)
	for _, c := range []struct {
		p     amd.Packet
		fi    int
		texts []string
	}{
		{of(3, many...), 3, many},
		{of(1, most), 1, []string{most}},
		{last(2, 0, most), 2, []string{most}},
		{of(0, most[:3999], "a"), 0, []string{most[:3999], "a"}}, // a length that no packet's bytes have
		{of(0, "a", most[:3999]), 0, []string{"a", most[:3999]}},
	} {
		wantTaken(t, []amd.Packet{c.p}, c.fi, c.texts...)
	}
	wantTaken(t, []amd.Packet{last(3, api.MaxPDU-1, "y"), part(1, 0, most[1:])}, 1, most[1:]+"y")
}

// TestLastOfNoPart: what is no part ends the data, whether it has Last or not.
func TestLastOfNoPart(t *testing.T) {
	p := of(2, "a", "b")
	p.Last = true
	p.Poll = true
	wantTaken(t, []amd.Packet{p}, 2, "a", "b")
}

// TestEndIsKnown: bytes behind the end, and another end.
func TestEndIsKnown(t *testing.T) {
	b := rxbuf.New()
	wantPut(t, b, last(0, 4, "ef"))
	for _, p := range []amd.Packet{
		part(0, 6, "g"), part(0, 5, "fg"), part(0, 0, "abcdefg"), part(0, 9, "j"),
		last(0, 6, "g"), last(0, 0, "abcdefg"), last(0, 5, "f", "g"), of(0, "abcdefg"),
		last(0, 0, "abcde"), last(0, 4, "e"), last(0, 0, "a"), of(0, "abcde"), of(0, "a"),
	} {
		wantNoPut(t, b, p, api.ErrForm)
	}
	wantNoPut(t, b, last(0, 4, "xy"), api.ErrTwice)
	wantNoPut(t, b, part(0, 5, "z"), api.ErrTwice)
	want5(t, b, 2, 0, 4)
	wantPut(t, b, last(0, 3, "def"), part(0, 2, "cdef"), of(0, "abcdef"))
	wantTake(t, b, 5, 0, "ab", "c", "d", "ef")
}

// TestByteBehindTheEnd: it may not end the data ahead of a byte that is there.
func TestByteBehindTheEnd(t *testing.T) {
	b := rxbuf.New()
	wantPut(t, b, part(0, 5, "f"))
	for _, p := range []amd.Packet{
		last(0, 4, "e"), last(0, 0, "a"), of(0, "abcde"), of(0, "a"), last(0, 0, "abcd", "e"),
	} {
		wantNoPut(t, b, p, api.ErrForm)
	}
	want5(t, b, 1, 0, 5, 6, 0)
	// where its last byte ends there is a right end
	wantPut(t, b, of(0, "abcdex"))
	wantTake(t, b, 5, 0, "abcde", "f")
}

// TestTwice: all bytes are there, whatever else the packet tells.
func TestTwice(t *testing.T) {
	b := rxbuf.New()
	wantPut(t, b, part(1, 0, "ab"), part(3, 2, "cd"), part(2, 6, "gh"))
	for _, p := range []amd.Packet{
		part(0, 0, "abcd"), part(0, 1, "b", "c"), part(3, 3, "d"), part(0, 6, "gh"), part(0, 7, "h"), part(0, 0, "wxyz"),
		last(0, 6, "gh"), last(1, 7, "h"), // its end is where a byte is that is there
	} {
		wantNoPut(t, b, p, api.ErrTwice)
	}
	want5(t, b, 6, 4, 6, 8, 0)
	wantPut(t, b, part(3, 4, "ef"), last(3, 8, "i"))
	// of what came twice nothing is kept: no edges, no beginning, no end
	wantTake(t, b, 5, 1, "abcdefgh", "i")
}

// TestErrorsInOrder: ErrArg, ErrForm, ErrTwice.
func TestErrorsInOrder(t *testing.T) {
	b := rxbuf.New()
	wantPut(t, b, of(0, "abcd"))
	wantNoPut(t, b, last(4, 0, "abc"), api.ErrArg)   // ErrForm and ErrTwice, too
	wantNoPut(t, b, last(0, 0, "abc"), api.ErrForm)  // ErrTwice, too
	wantNoPut(t, b, part(0, 0, "abc"), api.ErrTwice) // alone
	wantNoPut(t, b, of(0, "abcd"), api.ErrTwice)
	b = rxbuf.New()
	wantPut(t, b, part(0, 0, "abcd"))
	wantNoPut(t, b, last(0, 0, "abc"), api.ErrForm) // ErrTwice, too
	wantNoPut(t, b, of(0, "abcd"), api.ErrTwice)
	want5(t, b, 4, 4, 0)
}

// TestMostSpans: every second byte is no more spans than there may be.
func TestMostSpans(t *testing.T) {
	b := rxbuf.New()
	for at := api.MaxPDU - 1; at > 0; at -= 2 {
		wantPut(t, b, part(3, at, "b"))
	}
	if n := len(b.Missing(5)); n != api.MaxPDU/2+1 {
		t.Fatalf("%d spans are missing", n)
	}
	for at := 0; at < api.MaxPDU; at += 2 {
		wantPut(t, b, part(3, at, "a"))
	}
	want5(t, b, api.MaxPDU, api.MaxPDU, 0)
	b = rxbuf.New()
	for at := api.MaxPDU - 1; at > 0; at -= 2 {
		wantPut(t, b, part(0, at, "b"))
	}
	all := strings.Repeat("ab", api.MaxPDU/2)
	wantPut(t, b, of(2, strings.ReplaceAll(all, "b", "c")))
	wantTake(t, b, 5, 2, strings.Split(all, "")...)
}

// TestBytesThatAreThereStay: the first ones count, however a packet lies over them.
func TestBytesThatAreThereStay(t *testing.T) {
	for _, c := range []struct {
		p    amd.Packet
		want string
	}{
		{part(3, 0, "ABCDEFGH"), "ABcdEfgH"},
		{part(3, 1, "BCDEFGH"), "?BcdEfgH"},
		{part(3, 3, "DEF"), "??cdEfg?"},
		{part(3, 4, "E"), "??cdEfg?"},
		{part(3, 6, "GHIJ"), "??cd?fgHIJ"},
		{part(3, 0, "A"), "A?cd?fg?"},
		{part(3, 0, "ABCDE"), "ABcdEfg?"},
		{part(3, 0, "AB", "CDE"), "ABcdEfg?"},
	} {
		b := rxbuf.New()
		wantPut(t, b, part(3, 5, "fg"), part(3, 2, "cd"), c.p)
		got := taken(t, b)
		if !strings.HasPrefix(got, strings.TrimRight(c.want, "?")) {
			t.Errorf("%+v: %s, want %s", c.p, got, c.want)
		}
	}
}

// taken fills what of the piece 5 is missing with signs, and takes its bytes.
func taken(t *testing.T, b *rxbuf.Buffer) string {
	t.Helper()
	for _, x := range b.Missing(5) {
		if x.To == 0 {
			wantPut(t, b, last(3, x.From, "?"))
		} else {
			wantPut(t, b, part(3, x.From, strings.Repeat("?", x.To-x.From)))
		}
	}
	_, l, e := b.Take(5)
	if e != api.OK {
		t.Fatal(e)
	}
	return string(bytes.Join(l, nil))
}

// TestFI: of the data's beginning and of its end, wherever the others' FI tells.
func TestFI(t *testing.T) {
	for first := range 4 {
		for second := range 4 {
			fi := first&2 | second&1
			texts := []string{"ab", "cd"}
			if first&1 == 1 && second&2 == 2 {
				texts = []string{"abcd"}
			}
			parts := []amd.Packet{part(first, 0, "ab"), last(second, 2, "cd")}
			wantTaken(t, parts, fi, texts...)
			slices.Reverse(parts)
			wantTaken(t, parts, fi, texts...)
		}
		wantTaken(t, []amd.Packet{of(first, "ab")}, first, "ab")
		wantTaken(t, []amd.Packet{last(first, 0, "a", "b")}, first, "a", "b")
	}
}

// TestFIIsKept: what one packet told of the beginning or of the end stays, as nothing takes it back.
func TestFIIsKept(t *testing.T) {
	wantTaken(t, []amd.Packet{part(3, 0, "a"), part(1, 0, "ab"), last(3, 2, "c")}, 3, "abc")
	wantTaken(t, []amd.Packet{part(1, 0, "a"), part(3, 0, "ab"), last(3, 2, "c")}, 3, "abc")
	wantTaken(t, []amd.Packet{last(3, 2, "c"), last(2, 1, "bc"), part(1, 0, "a")}, 1, "abc")
	wantTaken(t, []amd.Packet{last(2, 2, "c"), last(3, 1, "bc"), part(1, 0, "a")}, 1, "abc")
}

// TestEdges: each kind of them, alone.
func TestEdges(t *testing.T) {
	for _, c := range []struct {
		parts []amd.Packet
		texts []string
	}{
		{[]amd.Packet{of(0, "a", "b", "cd")}, []string{"a", "b", "cd"}},
		{[]amd.Packet{part(1, 0, "ab"), last(2, 2, "cd")}, []string{"abcd"}},
		{[]amd.Packet{part(1, 0, "ab"), last(0, 2, "cd")}, []string{"ab", "cd"}},             // the first one's beginning
		{[]amd.Packet{part(0, 0, "ab"), last(2, 2, "cd")}, []string{"ab", "cd"}},             // the place behind it
		{[]amd.Packet{part(0, 0, "ab"), last(0, 2, "cd")}, []string{"ab", "cd"}},             // both
		{[]amd.Packet{part(1, 0, "a", "b"), last(2, 2, "c", "d")}, []string{"a", "bc", "d"}}, // beginnings of others
		{[]amd.Packet{part(1, 0, "ab"), last(2, 1, "b", "cd")}, []string{"ab", "cd"}},
		{[]amd.Packet{part(1, 0, "ab"), part(2, 1, "bc"), last(2, 3, "d")}, []string{"abc", "d"}},
		// of bytes that are there, too
		{[]amd.Packet{part(1, 0, "abc"), last(2, 1, "b", "c", "d")}, []string{"ab", "c", "d"}},
		{[]amd.Packet{part(1, 0, "abc"), last(0, 1, "bcd")}, []string{"a", "bcd"}},
		{[]amd.Packet{last(2, 2, "cd"), part(0, 0, "abc")}, []string{"abc", "d"}},
		// none at 0, and none at the end
		{[]amd.Packet{part(1, 0, "ab"), last(0, 0, "abcd")}, []string{"abcd"}},
		{[]amd.Packet{part(2, 3, "d"), last(2, 2, "cd"), part(1, 0, "ab")}, []string{"abcd"}},
		{[]amd.Packet{part(1, 0, "a"), part(3, 3, "d"), last(2, 1, "bcd")}, []string{"abcd"}},
		{[]amd.Packet{part(2, 1, "bcd"), last(3, 0, "abcd")}, []string{"abcd"}},
	} {
		b := rxbuf.New()
		wantPut(t, b, c.parts...)
		if _, l, e := b.Take(5); e != api.OK || !reflect.DeepEqual(l, list(c.texts...)) {
			t.Errorf("%+v: %q %v, want %q", c.parts, l, e, c.texts)
		}
	}
}

// P24.3

func TestTake(t *testing.T) {
	b := rxbuf.New()
	wantNoTake(t, b, 5, api.ErrNone)
	wantPut(t, b, part(0, 0, "ab"), numbered(6, part(0, 1, "b")), numbered(-1, of(3, "x", "y")))
	wantNoTake(t, b, 5, api.ErrShort)
	wantNoTake(t, b, 6, api.ErrShort)
	wantTake(t, b, -1, 3, "x", "y")
	wantPut(t, b, last(0, 3, "d"))
	wantNoTake(t, b, 5, api.ErrShort)
	wantPut(t, b, part(0, 2, "c"))
	wantTake(t, b, 5, 0, "ab", "c", "d")
	wantState(t, b, state{numbers: []int{6}, bytes: 1})
	// a number that was taken begins anew
	wantPut(t, b, part(3, 4, "e"))
	wantState(t, b, state{[]int{5, 6}, 2, false, spansOf(0, 4, 5, 0)})
	wantPut(t, b, of(3, "vwxyz"))
	wantTake(t, b, 5, 3, "vwxye")
	for _, sn := range []int{5, -1, 7, math.MinInt, math.MaxInt} {
		wantNoTake(t, b, sn, api.ErrNone)
	}
}

func TestDrop(t *testing.T) {
	b := rxbuf.New()
	wantPut(t, b, last(1, 2, "c"), numbered(6, of(0, "ab")))
	for _, sn := range []int{4, 7, -5, math.MinInt, math.MaxInt} {
		wantDrop(t, b, sn, api.ErrNone)
	}
	wantState(t, b, state{[]int{5, 6}, 3, false, spansOf(0, 2)})
	wantDrop(t, b, 5, api.OK)
	wantDrop(t, b, 5, api.ErrNone)
	wantState(t, b, state{numbers: []int{6}, bytes: 2})
	// nothing of what was there is left: no end, no edge, no FI
	wantPut(t, b, part(1, 0, "abc"), last(2, 3, "d"))
	wantTake(t, b, 5, 0, "abcd")
	wantDrop(t, b, 6, api.OK) // a whole one
	wantState(t, b, state{})
}

// rule 5 of the document

// TestWhatIsHandedInIsNotKept: nor changed, nor is what lies behind it.
func TestWhatIsHandedInIsNotKept(t *testing.T) {
	b := rxbuf.New()
	room := []byte("abXY")
	l := append(make([][]byte, 0, 4), room[:2], []byte("cd"))
	wantPut(t, b, amd.Packet{SN: 5, Part: true, Last: true, Offset: 1, Fields: l})
	if string(room) != "abXY" || len(l) != 2 || l[:3][2] != nil || string(l[1]) != "cd" {
		t.Fatalf("changed: %q %q", room, l[:3])
	}
	room[0], l[1][0], l[0] = 'x', 'x', nil
	first := []byte("-")
	wantPut(t, b, amd.Packet{SN: 5, Part: true, FI: 1, Fields: [][]byte{first}})
	first[0] = 'x'
	wantTake(t, b, 5, 0, "-", "ab", "cd")
}

func TestWhatIsHandedOutIsNewMemory(t *testing.T) {
	b := rxbuf.New()
	wantPut(t, b, part(0, 2, "ab"), part(0, 6, "ab"), numbered(6, part(0, 4, "ab")), numbered(7, part(1, 0, "a")))
	l, m := b.Numbers(), b.Missing(5)
	if len(l) != 3 || cap(l) != 3 || len(m) != 3 || cap(m) != 3 {
		t.Fatalf("room for %d, %d", cap(l), cap(m))
	}
	l[0], m[0].From = 9, 9
	wantState(t, b, state{[]int{5, 6, 7}, 7, false, spansOf(0, 2, 4, 6, 8, 0)})
	wantPut(t, b, last(0, 9, "x"))
	m = b.Missing(5)
	if len(m) != 3 || cap(m) != 3 {
		t.Fatalf("Missing: %v, room for %d", m, cap(m))
	}
	m[0].From = 9
	wantState(t, b, state{[]int{5, 6, 7}, 8, false, spansOf(0, 2, 4, 6, 8, 9)})
	wantPut(t, b, of(0, "ABCDEFGHIJ"))
	_, got, _ := b.Take(5)
	if len(got) != 6 || cap(got) != 6 {
		t.Fatalf("Take: %q, room for %d", got, cap(got))
	}
	for i, field := range got {
		if cap(field) != len(field) {
			t.Errorf("the field %d has room for %d", i, cap(field))
		}
		got[i] = append(field, 'z')
		got[i][0] = '-'
	}
	wantPut(t, b, of(0, "ABCDEF"))
	wantTake(t, b, 5, 0, "ABCDEF")
}

func TestBuffersAreTheirOwn(t *testing.T) {
	a, b := rxbuf.New(), rxbuf.New()
	wantPut(t, a, part(0, 2, "ab"))
	wantState(t, b, state{})
	wantPut(t, b, of(0, "c"))
	want5(t, a, 2, 0, 2, 4, 0)
	wantTake(t, b, 5, 0, "c")
	want5(t, a, 2, 0, 2, 4, 0)
}
