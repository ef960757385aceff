package node_test

import (
	"bytes"
	"math"
	"reflect"
	"slices"
	"strings"
	"testing"

	"bowline/amd"
	"bowline/api"
	"bowline/bearer"
	"bowline/check"
	"bowline/mux"
	"bowline/node"
	"bowline/pdu"
	"bowline/status"
	"bowline/umd"
)

// noIDs are numbers that no bearer has.
var noIDs = []int{0, -1, 32, 33, math.MinInt, math.MaxInt, 1<<32 + 1}

// wrongGrants are totals that are not granted.
var wrongGrants = []int{-1, -2, math.MinInt, api.MaxGrant + 1, api.MaxGrant + 2, math.MaxInt, 1<<32 + 100}

func long(n int) string { return strings.Repeat("0123456789", n/10+1)[:n] }

// um is the bytes of a packet of UM, of five bits.
func um(sn, fi int, fields ...string) string {
	b, e := umd.Write(umd.Packet{SN: sn, FI: fi, Fields: listed(fields)}, 5)
	if e != api.OK {
		panic(e)
	}
	return string(b)
}

// am is the bytes of a packet of AM, of ten bits.
func am(poll bool, sn int, fields ...string) string {
	b, e := amd.Write(amd.Packet{Poll: poll, SN: sn, Fields: listed(fields)}, 10)
	if e != api.OK {
		panic(e)
	}
	return string(b)
}

// ack is the bytes of a status.
func ack(n int, missing ...int) string {
	s := status.Status{Ack: n}
	for _, sn := range missing {
		s.Misses = append(s.Misses, status.Miss{SN: sn})
	}
	b, e := status.Write(s, 10)
	if e != api.OK {
		panic(e)
	}
	return string(b)
}

func listed(texts []string) [][]byte {
	var l [][]byte
	for _, text := range texts {
		l = append(l, []byte(text))
	}
	return l
}

func part(id int, data string) mux.Part { return mux.Part{ID: id, Data: []byte(data)} }

func block(parts ...mux.Part) []byte {
	b, e := mux.Write(parts)
	if e != api.OK {
		panic(e)
	}
	return b
}

func same(a [][]byte, b []string) bool {
	return slices.EqualFunc(a, b, func(a []byte, b string) bool { return string(a) == b })
}

func wantAdd(t *testing.T, n *node.Node, id int, c api.Config, rank, rate int, want api.Errno) {
	t.Helper()
	if e := n.Add(id, c, rank, rate); e != want {
		t.Fatalf("Add(%d, %+v, %d, %d): %v, want %v", id, c, rank, rate, e, want)
	}
}

func wantPush(t *testing.T, n *node.Node, id int, text string, want uint64, e api.Errno) {
	t.Helper()
	if m, f := n.Push(id, []byte(text)); m != want || f != e {
		t.Fatalf("Push(%d) of %d bytes: %d %v, want %d %v", id, len(text), m, f, want, e)
	}
}

func wantDiscard(t *testing.T, n *node.Node, id int, text uint64, want api.Errno) {
	t.Helper()
	if e := n.Discard(id, text); e != want {
		t.Fatalf("Discard(%d, %d): %v, want %v", id, text, e, want)
	}
}

func wantGrant(t *testing.T, n *node.Node, total int, want ...mux.Part) {
	t.Helper()
	b, e := n.Grant(total)
	if !bytes.Equal(b, block(want...)) || e != api.OK || len(b) > total || cap(b) != len(b) {
		t.Fatalf("Grant(%d): %x %v, want %x", total, b, e, block(want...))
	}
}

func wantNoGrant(t *testing.T, n *node.Node, total int, want api.Errno) {
	t.Helper()
	if b, e := n.Grant(total); b != nil || e != want {
		t.Fatalf("Grant(%d): %x %v, want %v", total, b, e, want)
	}
}

func wantHear(t *testing.T, n *node.Node, b []byte, want api.Errno) {
	t.Helper()
	if e := n.Hear(b); e != want {
		t.Fatalf("Hear(%.40x): %v, want %v", b, e, want)
	}
}

func wantReset(t *testing.T, n *node.Node, id int, want api.Errno) {
	t.Helper()
	if e := n.Reset(id); e != want {
		t.Fatalf("Reset(%d): %v, want %v", id, e, want)
	}
}

func wantTold(t *testing.T, n *node.Node, id int, want ...string) {
	t.Helper()
	if l := n.Told(id); !same(l, want) {
		t.Fatalf("Told(%d): %q, want %q", id, l, want)
	}
}

func wantCounts(t *testing.T, n *node.Node, bad, stray int) {
	t.Helper()
	if b, s := n.Counts(); b != bad || s != stray {
		t.Fatalf("Counts: %d %d, want %d %d", b, s, bad, stray)
	}
}

func wantWaits(t *testing.T, n *node.Node, id, want int) {
	t.Helper()
	if w := n.Table().Waits(id); w != want {
		t.Fatalf("of %d wait %d bytes, want %d", id, w, want)
	}
}

// wantNoBearer wants that each call of a bearer tells an error, or nothing.
func wantNoBearer(t *testing.T, n *node.Node, id int, want api.Errno) {
	t.Helper()
	for _, m := range []int{0, 1, api.MaxSDU + 1} {
		wantPush(t, n, id, long(m), 0, want)
	}
	for _, text := range []uint64{0, 1, math.MaxUint64} {
		wantDiscard(t, n, id, text, want)
	}
	wantReset(t, n, id, want)
	wantTold(t, n, id)
}

// usual is a node of a bearer of each mode: TM 3, AM 9, UM 17.
func usual(t *testing.T) *node.Node {
	t.Helper()
	n := node.New()
	wantAdd(t, n, 17, pdu.Usual(api.UM), 1, 100, api.OK)
	wantAdd(t, n, 3, pdu.Usual(api.TM), 1, 100, api.OK)
	wantAdd(t, n, 9, pdu.Usual(api.AM), 1, 100, api.OK)
	return n
}

// P32.1

func TestNew(t *testing.T) {
	n := node.New()
	if l := n.Table().IDs(); len(l) != 0 {
		t.Fatalf("there are the bearers %v", l)
	}
	n.Tick()
	for _, id := range append(noIDs, 1, 31) {
		wantNoBearer(t, n, id, api.ErrNone)
	}
	wantCounts(t, n, 0, 0)
}

func TestNoNode(t *testing.T) {
	for _, n := range []*node.Node{nil, {}} {
		for _, id := range append(noIDs, 1, 31) {
			for _, c := range []api.Config{{}, {Mode: 3}, pdu.Usual(api.TM), pdu.Usual(api.AM)} {
				wantAdd(t, n, id, c, 1, 100, api.ErrNil)
				wantAdd(t, n, id, c, 0, -1, api.ErrNil)
			}
			wantNoBearer(t, n, id, api.ErrNil)
		}
		for _, total := range append(wrongGrants, 0, 100, api.MaxGrant) {
			wantNoGrant(t, n, total, api.ErrNil)
		}
		for _, b := range [][]byte{nil, {0xFF, 0xFF}, block(part(1, "a")), make([]byte, 5000)} {
			wantHear(t, n, b, api.ErrNil)
		}
		n.Tick()
		wantCounts(t, n, 0, 0)
		if n.Table() != nil {
			t.Fatal("there is a table")
		}
	}
}

func TestCalls(t *testing.T) {
	var names []string
	for m := range reflect.TypeFor[*node.Node]().Methods() {
		names = append(names, m.Name)
	}
	want := []string{"Add", "Counts", "Discard", "Grant", "Hear", "Push", "Reset", "Table", "Tick", "Told"}
	if !slices.Equal(names, want) {
		t.Errorf("the calls %v, want %v", names, want)
	}
}

func TestAdd(t *testing.T) {
	for rank := 1; rank <= 16; rank++ {
		for _, rate := range []int{0, 1, 100, api.MaxGrant - 1, api.MaxGrant} {
			n := node.New()
			c := pdu.Usual(rank % 3)
			c.QueueBytes = rank
			wantAdd(t, n, rank+15, c, rank, rate, api.OK)
			if d, e := n.Table().Config(rank + 15); d != c || e != api.OK {
				t.Fatalf("its table has %+v %v", d, e)
			}
		}
	}
}

// TestAddErrors: each error alone, and the first one where there are several.
func TestAddErrors(t *testing.T) {
	right, wrong, kind := pdu.Usual(api.UM), pdu.Usual(api.UM), pdu.Usual(api.AM)
	wrong.Window++
	kind.Mode = 3
	places := []struct{ rank, rate int }{
		{0, 100}, {-1, 100}, {17, 100}, {math.MinInt, 100}, {math.MaxInt, 100}, {1<<32 + 1, 100},
		{1, -1}, {1, api.MaxGrant + 1}, {1, math.MinInt}, {1, math.MaxInt}, {16, 1<<32 + 1}, {0, -1},
	}
	n := node.New()
	for i := range api.MaxBearers {
		for _, p := range places {
			for _, c := range []api.Config{right, wrong, kind} {
				wantAdd(t, n, 9, c, p.rank, p.rate, api.ErrArg)
				wantAdd(t, n, 1, c, p.rank, p.rate, api.ErrArg)
			}
		}
		for _, id := range noIDs {
			wantAdd(t, n, id, right, 1, 100, api.ErrArg)
			wantAdd(t, n, id, kind, 1, 100, api.ErrArg)
		}
		wantAdd(t, n, 30, wrong, 1, 100, api.ErrArg)
		wantAdd(t, n, 30, kind, 1, 100, api.ErrKind)
		if i > 0 {
			wantAdd(t, n, i, right, 1, 100, api.ErrTwice)
			wantAdd(t, n, i, kind, 1, 100, api.ErrKind)
		}
		wantAdd(t, n, i+1, right, 1, 100, api.OK)
	}
	for _, id := range []int{9, 31} {
		wantAdd(t, n, id, right, 1, 100, api.ErrFull)
		wantAdd(t, n, id, right, 17, 100, api.ErrArg)
		wantNoBearer(t, n, id, api.ErrNone)
	}
	wantAdd(t, n, 1, right, 1, 100, api.ErrTwice)
	if l := n.Table().IDs(); !slices.Equal(l, []int{1, 2, 3, 4, 5, 6, 7, 8}) {
		t.Fatalf("there are the bearers %v", l)
	}
	wantNoGrant(t, n, api.MaxGrant, api.ErrNone)
}

// TestAddTwice: the bearer that is there keeps its rank, its rate, and what it was told.
func TestAddTwice(t *testing.T) {
	n := node.New()
	tm := pdu.Usual(api.TM)
	wantAdd(t, n, 1, tm, 2, 0, api.OK)
	wantAdd(t, n, 2, tm, 2, 0, api.OK)
	wantHear(t, n, block(part(2, "x")), api.OK)
	wantAdd(t, n, 2, tm, 1, 100, api.ErrTwice)
	wantTold(t, n, 2, "x")
	wantPush(t, n, 1, "ab", 1, api.OK)
	wantPush(t, n, 2, "cd", 1, api.OK)
	wantGrant(t, n, 6, part(1, "ab"))
}

func TestPush(t *testing.T) {
	n := node.New()
	for i, mode := range []int{api.TM, api.UM, api.AM} {
		c := pdu.Usual(mode)
		c.QueueBytes = 1005
		id := i + 1
		wantAdd(t, n, id, c, 1, 100, api.OK)
		wantPush(t, n, id, "", 0, api.ErrArg)
		wantPush(t, n, id, long(api.MaxSDU+1), 0, api.ErrLong)
		wantPush(t, n, id, long(api.MaxSDU), 1, api.OK)
		wantPush(t, n, id, long(6), 0, api.ErrFull)
		wantPush(t, n, id, long(5), 2, api.OK)
		wantWaits(t, n, id, 1005)
		wantDiscard(t, n, id, 0, api.ErrNone)
		wantDiscard(t, n, id, 3, api.ErrNone)
		wantDiscard(t, n, id, 1, api.OK)
		wantDiscard(t, n, id, 1, api.ErrNone)
		wantWaits(t, n, id, 5)
	}
	for _, id := range append(noIDs, 4, 31) {
		wantNoBearer(t, n, id, api.ErrNone)
	}
}

// TestTable: it is one and the same, and what is done with it is done with the node.
func TestTable(t *testing.T) {
	n := usual(t)
	x := n.Table()
	if x == nil || n.Table() != x {
		t.Fatal("there is another table")
	}
	if l := x.IDs(); !slices.Equal(l, []int{3, 9, 17}) {
		t.Fatalf("it has the bearers %v", l)
	}
	if m, e := x.Push(3, []byte("ab")); m != 1 || e != api.OK {
		t.Fatalf("Push: %d %v", m, e)
	}
	wantPush(t, n, 3, "c", 2, api.OK)
	wantDiscard(t, n, 3, 1, api.OK)
	wantGrant(t, n, 7+82, part(3, "c")) // the one of AM wants 80 that it does not need
	// what a caller lets the table hear is told to that caller
	if l, e := x.Hear(3, []byte("x")); !same(l, []string{"x"}) || e != api.OK {
		t.Fatalf("Hear: %q %v", l, e)
	}
	wantTold(t, n, 3)
}

// TestAddedToTheTableAlone: such a bearer has no rank, so that it asks for nothing; it hears, and the others are as without it.
func TestAddedToTheTableAlone(t *testing.T) {
	n := node.New()
	for _, id := range []int{1, 5} {
		if e := n.Table().Add(id, pdu.Usual(api.TM)); e != api.OK {
			t.Fatalf("Add: %v", e)
		}
		wantPush(t, n, id, "ab", 1, api.OK)
	}
	wantNoGrant(t, n, api.MaxGrant, api.ErrNone)
	wantAdd(t, n, 5, pdu.Usual(api.TM), 1, 100, api.ErrTwice)
	wantAdd(t, n, 3, pdu.Usual(api.TM), 1, 100, api.OK)
	wantPush(t, n, 3, "cd", 1, api.OK)
	wantHear(t, n, block(part(1, "x"), part(3, "y"), part(4, "z")), api.OK)
	wantTold(t, n, 1, "x")
	wantTold(t, n, 3, "y")
	wantCounts(t, n, 0, 1)
	wantGrant(t, n, 100, part(3, "cd"))
	wantNoGrant(t, n, 100, api.ErrNone)
	wantWaits(t, n, 1, 2)
	wantReset(t, n, 1, api.OK)
	wantWaits(t, n, 1, 0)
}

// P32.2

func TestExample(t *testing.T) {
	wantNoGrant(t, node.New(), 100, api.ErrNone)
}

func TestGrantTotals(t *testing.T) {
	n := node.New()
	for _, total := range wrongGrants {
		wantNoGrant(t, n, total, api.ErrArg)
	}
	for total := range api.MaxGrant + 1 {
		wantNoGrant(t, n, total, api.ErrNone)
	}
	wantAdd(t, n, 1, pdu.Usual(api.TM), 1, 0, api.OK)
	for total := range api.MaxGrant + 1 {
		wantNoGrant(t, n, total, api.ErrNone)
	}
	wantPush(t, n, 1, "a", 1, api.OK)
	for _, total := range append(wrongGrants, -3) {
		wantNoGrant(t, n, total, api.ErrArg)
	}
	for total := range 5 {
		wantNoGrant(t, n, total, api.ErrNone)
	}
	wantGrant(t, n, 5, part(1, "a"))
	wantPush(t, n, 1, "b", 2, api.OK)
	wantGrant(t, n, api.MaxGrant, part(1, "b"))
}

// TestGrantOfEachMode: what is built with so much, less what a part and a block have more.
func TestGrantOfEachMode(t *testing.T) {
	for i, c := range []struct {
		mode, total int
		want        string
	}{
		{api.TM, 9, ""}, {api.TM, 10, "abcdef"}, {api.TM, 100, "abcdef"},
		{api.UM, 5, ""}, {api.UM, 6, um(0, 1, "a")}, {api.UM, 10, um(0, 1, "abcde")}, {api.UM, 11, um(0, 0, "abcdef")}, {api.UM, 100, um(0, 0, "abcdef")},
		{api.AM, 6, ""}, {api.AM, 12, am(true, 0, "abcdef")}, {api.AM, 100, am(true, 0, "abcdef")},
	} {
		n := node.New()
		wantAdd(t, n, i+1, pdu.Usual(c.mode), 1, 0, api.OK)
		wantPush(t, n, i+1, "abcdef", 1, api.OK)
		if c.want == "" {
			wantNoGrant(t, n, c.total, api.ErrNone)
			wantWaits(t, n, i+1, 6)
		} else {
			wantGrant(t, n, c.total, part(i+1, c.want))
		}
	}
}

// TestWhatABearerWants: what it wants is kept from the one behind it, if its rate is as great as may be, and nothing more.
func TestWhatABearerWants(t *testing.T) {
	type first struct {
		c    api.Config
		push []string
		want int
		data string
	}
	tm, um5, am10 := pdu.Usual(api.TM), pdu.Usual(api.UM), pdu.Usual(api.AM)
	for _, c := range []first{
		{tm, nil, 0, ""},
		{tm, []string{"a"}, 3, "a"},
		{tm, []string{"abc"}, 5, "abc"},
		{tm, []string{"abc", "de"}, 7, "abc"},
		{um5, nil, 0, ""},
		{um5, []string{"a"}, 41, um(0, 0, "a")},
		{um5, []string{"abc", "de"}, 45, um(0, 0, "abc", "de")},
		{am10, nil, 80, ""},
		{am10, []string{"a"}, 81, am(true, 0, "a")},
		{am10, []string{"abc", "de"}, 85, am(true, 0, "abc", "de")},
	} {
		for _, more := range []int{-1, 0} {
			n := node.New()
			wantAdd(t, n, 20, c.c, 1, api.MaxGrant, api.OK)
			wantAdd(t, n, 10, tm, 2, 5, api.OK)
			for i, text := range c.push {
				wantPush(t, n, 20, text, uint64(i+1), api.OK)
			}
			wantPush(t, n, 10, "xyz", 1, api.OK)
			var want []mux.Part
			if c.data != "" {
				want = append(want, part(20, c.data))
			}
			if more == 0 {
				want = append(want, part(10, "xyz"))
			}
			total := 2 + c.want + 5 + more
			if len(want) == 0 {
				wantNoGrant(t, n, total, api.ErrNone)
			} else {
				wantGrant(t, n, total, want...)
			}
		}
	}
}

// TestWhatIsDueIsWanted: of AM what is due waits, too; and one on which nothing waits may send a status.
func TestWhatIsDueIsWanted(t *testing.T) {
	for _, more := range []int{-1, 0} {
		n := node.New()
		wantAdd(t, n, 9, pdu.Usual(api.AM), 1, api.MaxGrant, api.OK)
		wantAdd(t, n, 3, pdu.Usual(api.TM), 2, 5, api.OK)
		wantPush(t, n, 9, "abcdef", 1, api.OK)
		wantGrant(t, n, 100, part(9, am(true, 0, "abcdef")))
		wantHear(t, n, block(part(9, ack(1, 0))), api.OK)
		wantWaits(t, n, 9, 6)
		wantPush(t, n, 3, "xyz", 1, api.OK)
		parts := []mux.Part{part(9, am(true, 0, "abcdef")), part(3, "xyz")}
		wantGrant(t, n, 2+86+5+more, parts[:2+more]...)
	}
	n := node.New()
	wantAdd(t, n, 9, pdu.Usual(api.AM), 16, 0, api.OK)
	wantHear(t, n, block(part(9, am(true, 0, "a"))), api.OK)
	wantNoGrant(t, n, 5, api.ErrNone)
	wantGrant(t, n, 6, part(9, ack(1)))
	wantNoGrant(t, n, 6, api.ErrNone)
}

// TestMuchWaits: nobody wants more than may be wanted, and no part has more bytes than it may have.
func TestMuchWaits(t *testing.T) {
	for _, mode := range []int{api.UM, api.AM} {
		c := pdu.Usual(mode)
		c.QueueBytes = api.MaxBytes
		n, x := node.New(), bearer.New()
		wantAdd(t, n, 4, c, 1, 0, api.OK)
		x.Add(4, c)
		for i := range api.MaxBytes / api.MaxSDU {
			wantPush(t, n, 4, long(api.MaxSDU), uint64(i+1), api.OK)
			x.Push(4, []byte(long(api.MaxSDU)))
		}
		wantWaits(t, n, 4, api.MaxBytes)
		for _, c := range []struct{ total, build int }{{4096, 2047}, {2052, 2047}, {2051, 2047}, {2050, 2046}, {2049, 2045}, {1000, 996}} {
			b, e := x.Build(4, c.build)
			if e != api.OK || len(b) > c.build {
				t.Fatalf("Build(%d): %x %v", c.build, b, e)
			}
			wantGrant(t, n, c.total, part(4, string(b)))
		}
	}
}

// TestTwoOfTheGreatest: two parts as long as may be have no place in one block; what is left is the second one's.
func TestTwoOfTheGreatest(t *testing.T) {
	n := node.New()
	for id := 1; id <= 2; id++ {
		wantAdd(t, n, id, pdu.Usual(api.UM), 3-id, 0, api.OK)
		for i := range 3 {
			wantPush(t, n, id, long(api.MaxSDU), uint64(i+1), api.OK)
		}
	}
	b, e := n.Grant(api.MaxGrant)
	l, f := mux.Read(b)
	if e != api.OK || f != api.OK || len(l) != 2 || l[0].ID != 2 || l[1].ID != 1 {
		t.Fatalf("Grant: %.40x %v, %d parts %v", b, e, len(l), f)
	}
	if len(l[0].Data) != api.MaxLen || len(l[1].Data) != api.MaxGrant-2-3040-2 {
		t.Fatalf("Grant: parts of %d and %d bytes", len(l[0].Data), len(l[1].Data))
	}
}

// TestTheOrderOfRanks: parts stand by ranks, and of equal ones by rising ids; so does what little there is go.
func TestTheOrderOfRanks(t *testing.T) {
	ranks := map[int]int{30: 1, 4: 16, 9: 2, 12: 2, 1: 3, 2: 2}
	laid := func() *node.Node {
		n := node.New()
		for _, id := range []int{4, 12, 30, 9, 2, 1} {
			wantAdd(t, n, id, pdu.Usual(api.TM), ranks[id], 100, api.OK)
			wantPush(t, n, id, "ab", 1, api.OK)
		}
		return n
	}
	want := []mux.Part{part(30, "ab"), part(2, "ab"), part(9, "ab"), part(12, "ab"), part(1, "ab"), part(4, "ab")}
	wantGrant(t, laid(), 100, want...)
	for k := 1; k <= len(want); k++ {
		wantGrant(t, laid(), 2+4*k, want[:k]...)
		wantGrant(t, laid(), 2+4*k+3, want[:k]...)
	}
}

// TestRates: each gets its rate, before what is left goes to the first ones.
func TestRates(t *testing.T) {
	n := node.New()
	wantAdd(t, n, 1, pdu.Usual(api.UM), 1, 10, api.OK)
	wantAdd(t, n, 2, pdu.Usual(api.UM), 2, 5, api.OK)
	wantPush(t, n, 1, long(100), 1, api.OK)
	wantPush(t, n, 2, long(100), 1, api.OK)
	wantGrant(t, n, 2+10+5, part(1, um(0, 1, "0123456")), part(2, um(0, 1, "01")))
	wantGrant(t, n, 2+10+5+3, part(1, um(1, 3, "7890123456")), part(2, um(1, 3, "23")))
	wantGrant(t, n, 2+6, part(1, um(2, 3, "789")))
	wantGrant(t, n, 2+10+3, part(1, um(3, 3, "0123456"))) // of 3 the second builds nothing: its head is as long
}

// TestGrantChangesNothing: where there is no part, all waits as it did.
func TestGrantChangesNothing(t *testing.T) {
	n := usual(t)
	for _, id := range []int{3, 9, 17} {
		wantPush(t, n, id, "abc", 1, api.OK)
	}
	for range 3 {
		wantNoGrant(t, n, 4, api.ErrNone)
		wantNoGrant(t, n, -1, api.ErrArg)
		wantNoGrant(t, n, api.MaxGrant+1, api.ErrArg)
	}
	wantGrant(t, n, 1000, part(3, "abc"), part(9, am(true, 0, "abc")), part(17, um(0, 0, "abc")))
}

// P32.3

// TestHearOfNoBlock: mux's errors; nothing but Bad changes.
func TestHearOfNoBlock(t *testing.T) {
	n := usual(t)
	right := block(part(3, "a"))
	wantHear(t, n, right, api.OK)
	var many []byte
	for range 17 {
		many = append(many, 3<<3, 1, 'a')
	}
	bad := 0
	for _, c := range []struct {
		b    []byte
		want api.Errno
	}{
		{nil, api.ErrShort},
		{[]byte{0xFF}, api.ErrShort},
		{[]byte{0xFF, 0xFE}, api.ErrSum},
		{right[:len(right)-1], api.ErrSum},
		{append([]byte{0}, right...), api.ErrSum},
		{check.Close([]byte{3 << 3}), api.ErrShort},
		{check.Close([]byte{3 << 3, 2, 'a'}), api.ErrShort},
		{check.Close([]byte{3 << 3, 1, 'a', 3 << 3, 2, 'a'}), api.ErrShort},
		{check.Close([]byte{3 << 3, 1, 'a', 0, 1, 'a'}), api.ErrForm},
		{check.Close([]byte{3 << 3, 1, 'a', 3 << 3, 0}), api.ErrForm},
		{check.Close(many), api.ErrLong},
		{check.Close(make([]byte, api.MaxGrant-1)), api.ErrLong},
	} {
		wantHear(t, n, c.b, c.want)
		bad++
		wantCounts(t, n, bad, 0)
		wantTold(t, n, 3, "a")
	}
	wantHear(t, n, check.Close(many[3:]), api.OK)
	wantCounts(t, n, bad, 0)
	if l := n.Told(3); len(l) != 17 {
		t.Fatalf("Told: %q", l)
	}
}

func TestHear(t *testing.T) {
	n := usual(t)
	wantHear(t, n, block(), api.OK)
	wantHear(t, n, block(part(3, "x"), part(17, um(0, 0, "A", "B")), part(9, am(false, 0, "C")), part(3, "y")), api.OK)
	wantTold(t, n, 3, "x", "y")
	wantTold(t, n, 9, "C")
	wantTold(t, n, 17, "A", "B")
	// what comes ahead of its turn is told in its turn
	wantHear(t, n, block(part(17, um(2, 0, "E")), part(17, um(1, 0, "D")), part(9, am(false, 2, "G"))), api.OK)
	wantTold(t, n, 17, "A", "B", "D", "E")
	wantTold(t, n, 9, "C")
	wantHear(t, n, block(part(9, am(false, 1, "F"))), api.OK)
	wantTold(t, n, 9, "C", "F", "G")
	wantCounts(t, n, 0, 0)
}

func TestStray(t *testing.T) {
	n := usual(t)
	wantHear(t, n, block(part(1, "x"), part(3, "y"), part(31, "z"), part(1, "w")), api.OK)
	wantCounts(t, n, 0, 3)
	wantTold(t, n, 3, "y")
	wantTold(t, n, 1)
	wantAdd(t, n, 1, pdu.Usual(api.TM), 1, 100, api.OK)
	wantTold(t, n, 1)
	wantHear(t, n, block(part(1, "v")), api.OK)
	wantTold(t, n, 1, "v")
	wantCounts(t, n, 0, 3)
}

// TestHearPassesErrorsOver: what a bearer refuses is the bearer's; the other parts are heard.
func TestHearPassesErrorsOver(t *testing.T) {
	n := usual(t)
	wantHear(t, n, block(
		part(3, long(api.MaxSDU+1)),
		part(17, um(0, 0, "A")), part(17, um(0, 0, "A")), part(17, "\x23"),
		part(9, am(false, 0, "B")), part(9, am(false, 0, "B")), part(9, "\x00"), part(9, ack(7)),
		part(3, "y"),
	), api.OK)
	wantTold(t, n, 3, "y")
	wantTold(t, n, 9, "B")
	wantTold(t, n, 17, "A")
	wantCounts(t, n, 0, 0)
	for _, id := range []int{3, 9, 17} {
		if bad := n.Table().Bad(id); bad != 1 {
			t.Errorf("to %d %d were nothing, want 1", id, bad)
		}
	}
}

func TestTick(t *testing.T) {
	n := usual(t)
	c := pdu.Usual(api.UM)
	c.Reorder = 2
	wantAdd(t, n, 30, c, 1, 100, api.OK)
	wantAdd(t, n, 1, c, 1, 100, api.OK)
	for _, id := range []int{1, 17, 30} {
		wantHear(t, n, block(part(id, um(2, 0, "x")), part(id, um(1, 0, long(id)))), api.OK)
	}
	wantHear(t, n, block(part(9, am(false, 1, "B"))), api.OK)
	n.Tick()
	wantTold(t, n, 1)
	n.Tick()
	wantTold(t, n, 1, long(1), "x")
	wantTold(t, n, 30, long(30), "x")
	wantTold(t, n, 17)
	n.Tick()
	wantNoGrant(t, n, 1000, api.ErrNone)
	n.Tick()
	wantTold(t, n, 17, long(17), "x")
	wantTold(t, n, 3)
	wantTold(t, n, 9)
	wantGrant(t, n, 1000, part(9, ack(2, 0)))
}

// TestReset: what was told stays, and what the bearer's Reset tells is behind it.
func TestReset(t *testing.T) {
	n := usual(t)
	wantHear(t, n, block(part(17, um(0, 0, "A")), part(17, um(2, 0, "C", "D")), part(9, am(true, 1, "F")), part(3, "x")), api.OK)
	for _, id := range []int{3, 9, 17} {
		wantPush(t, n, id, "abc", 1, api.OK)
		wantReset(t, n, id, api.OK)
		wantWaits(t, n, id, 0)
	}
	wantTold(t, n, 3, "x")
	wantTold(t, n, 9)
	wantTold(t, n, 17, "A", "C", "D")
	wantNoGrant(t, n, 1000, api.ErrNone)
	for _, id := range append(noIDs, 1, 31) {
		wantReset(t, n, id, api.ErrNone)
	}
	wantReset(t, n, 17, api.OK)
	wantHear(t, n, block(part(17, um(0, 0, "E")), part(9, am(false, 0, "G"))), api.OK)
	wantTold(t, n, 17, "A", "C", "D", "E")
	wantTold(t, n, 9, "G")
	wantPush(t, n, 3, "d", 2, api.OK)
	wantCounts(t, n, 0, 0)
}

// rules 4 and 5 of the document

func TestWhatIsHandedInIsNotKept(t *testing.T) {
	n := usual(t)
	text := []byte("abcxyz")
	for _, id := range []int{3, 9, 17} {
		if _, e := n.Push(id, text[:3]); e != api.OK {
			t.Fatalf("Push: %v", e)
		}
	}
	copy(text, "......")
	b := block(part(3, "A"), part(17, um(0, 1, "B")), part(17, um(2, 0, "C")), part(9, am(false, 1, "D")))
	size := len(b)
	b = append(b, "xyz"...)
	was := bytes.Clone(b)
	wantHear(t, n, b[:size], api.OK)
	if !bytes.Equal(b, was) {
		t.Errorf("what was handed in is %x", b)
	}
	clear(b)
	wantHear(t, n, block(part(17, um(1, 2, "b")), part(9, am(false, 0, "d"))), api.OK)
	wantTold(t, n, 3, "A")
	wantTold(t, n, 17, "Bb", "C")
	wantTold(t, n, 9, "d", "D")
	wantGrant(t, n, 1000, part(3, "abc"), part(9, am(true, 0, "abc")), part(17, um(0, 0, "abc")))
}

func TestWhatIsHandedOutIsNewMemory(t *testing.T) {
	n := usual(t)
	wantHear(t, n, block(part(3, "abc"), part(3, "d"), part(3, "ef")), api.OK)
	for range 2 {
		l := n.Told(3)
		if !same(l, []string{"abc", "d", "ef"}) || cap(l) != 3 {
			t.Fatalf("Told: %q, room for %d", l, cap(l))
		}
		for _, text := range l {
			if cap(text) != len(text) {
				t.Errorf("there is room behind %q", text)
			}
			clear(text)
		}
		clear(l)
	}
	wantTold(t, n, 3, "abc", "d", "ef")
	wantPush(t, n, 9, "abc", 1, api.OK)
	b, e := n.Grant(100)
	if e != api.OK {
		t.Fatalf("Grant: %v", e)
	}
	clear(b)
	wantHear(t, n, block(part(9, ack(1, 0))), api.OK)
	wantGrant(t, n, 100, part(9, am(true, 0, "abc")))
}
