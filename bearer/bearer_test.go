package bearer_test

import (
	"bytes"
	"encoding/hex"
	"math"
	"reflect"
	"slices"
	"strings"
	"testing"

	"bowline/amd"
	"bowline/api"
	"bowline/bearer"
	"bowline/pdu"
	"bowline/status"
	"bowline/umd"
)

// The bearers of the tables that these tests make.
const (
	tm = 3
	um = 17
	ac = 9 // of AM
)

var (
	modes = map[int]int{tm: api.TM, um: api.UM, ac: api.AM}
	// noIDs are numbers that no bearer has, and absent ones that some other bearer may have.
	noIDs  = []int{0, -1, 32, 33, math.MinInt, math.MaxInt, 1<<32 + tm, -tm}
	absent = []int{1, 2, 4, 16, 31}
)

func long(n int) string { return strings.Repeat("0123456789", n/10+1)[:n] }

func fromHex(t *testing.T, text string) []byte {
	t.Helper()
	b, e := hex.DecodeString(text)
	if e != nil {
		t.Fatal(e)
	}
	return b
}

// umBytes is the bytes of a packet of UM.
func umBytes(sn, fi int, fields ...string) []byte {
	b, e := umd.Write(umd.Packet{SN: sn, FI: fi, Fields: listed(fields)}, 5)
	if e != api.OK {
		panic(e)
	}
	return b
}

// amBytes is the bytes of a packet of AM.
func amBytes(poll bool, sn, fi int, fields ...string) []byte {
	b, e := amd.Write(amd.Packet{Poll: poll, SN: sn, FI: fi, Fields: listed(fields)}, 10)
	if e != api.OK {
		panic(e)
	}
	return b
}

// ack is the bytes of a status.
func ack(n int, missing ...int) []byte {
	s := status.Status{Ack: n}
	for _, sn := range missing {
		s.Misses = append(s.Misses, status.Miss{SN: sn})
	}
	b, e := status.Write(s, 10)
	if e != api.OK {
		panic(e)
	}
	return b
}

func listed(texts []string) [][]byte {
	var l [][]byte
	for _, text := range texts {
		l = append(l, []byte(text))
	}
	return l
}

func same(a [][]byte, b []string) bool {
	return slices.EqualFunc(a, b, func(a []byte, b string) bool { return string(a) == b })
}

// usual is a table of a bearer of each mode.
func usual(t *testing.T) *bearer.Table {
	t.Helper()
	x := bearer.New()
	for _, id := range []int{um, tm, ac} {
		wantAdd(t, x, id, pdu.Usual(modes[id]), api.OK)
	}
	return x
}

// told is what a table tells of a bearer.
type told struct {
	waits, unsure, bad int
	failed             bool
}

func toldOf(x *bearer.Table, id int) told {
	return told{x.Waits(id), x.Unsure(id), x.Bad(id), x.Failed(id)}
}

func wantTold(t *testing.T, x *bearer.Table, id int, want told) {
	t.Helper()
	if l := toldOf(x, id); l != want {
		t.Fatalf("of %d it tells %+v, want %+v", id, l, want)
	}
}

func wantAdd(t *testing.T, x *bearer.Table, id int, c api.Config, want api.Errno) {
	t.Helper()
	if e := x.Add(id, c); e != want {
		t.Fatalf("Add(%d, %+v): %v, want %v", id, c, e, want)
	}
}

func wantIDs(t *testing.T, x *bearer.Table, want ...int) {
	t.Helper()
	if l := x.IDs(); !slices.Equal(l, want) {
		t.Fatalf("IDs: %v, want %v", l, want)
	}
}

func wantConfig(t *testing.T, x *bearer.Table, id int, want api.Config, e api.Errno) {
	t.Helper()
	if c, f := x.Config(id); c != want || f != e {
		t.Fatalf("Config(%d): %+v %v, want %+v %v", id, c, f, want, e)
	}
}

func wantPush(t *testing.T, x *bearer.Table, id int, text string, want uint64, e api.Errno) {
	t.Helper()
	if n, f := x.Push(id, []byte(text)); n != want || f != e {
		t.Fatalf("Push(%d) of %d bytes: %d %v, want %d %v", id, len(text), n, f, want, e)
	}
}

func wantDiscard(t *testing.T, x *bearer.Table, id int, n uint64, want api.Errno) {
	t.Helper()
	if e := x.Discard(id, n); e != want {
		t.Fatalf("Discard(%d, %d): %v, want %v", id, n, e, want)
	}
}

func wantBuild(t *testing.T, x *bearer.Table, id, grant int, want []byte) {
	t.Helper()
	if b, e := x.Build(id, grant); !bytes.Equal(b, want) || e != api.OK {
		t.Fatalf("Build(%d, %d): %x %v, want %x", id, grant, b, e, want)
	}
}

func wantNone(t *testing.T, x *bearer.Table, id, grant int, want api.Errno) {
	t.Helper()
	before := toldOf(x, id)
	if b, e := x.Build(id, grant); b != nil || e != want {
		t.Fatalf("Build(%d, %d): %x %v, want %v", id, grant, b, e, want)
	}
	wantTold(t, x, id, before)
}

func wantHear(t *testing.T, x *bearer.Table, id int, b []byte, want ...string) {
	t.Helper()
	if l, e := x.Hear(id, b); !same(l, want) || e != api.OK {
		t.Fatalf("Hear(%d, %x): %q %v, want %q", id, b, l, e, want)
	}
}

// wantRefused wants an error, and so much more that was nothing.
func wantRefused(t *testing.T, x *bearer.Table, id int, b []byte, want api.Errno, more int) {
	t.Helper()
	before := toldOf(x, id)
	if l, e := x.Hear(id, b); len(l) != 0 || e != want {
		t.Fatalf("Hear(%d, %.20x): %q %v, want %v", id, b, l, e, want)
	}
	before.bad += more
	wantTold(t, x, id, before)
}

func wantTick(t *testing.T, x *bearer.Table, want ...[]string) {
	t.Helper()
	if l := x.Tick(); !slices.EqualFunc(l, want, same) {
		t.Fatalf("Tick: %q, want %q", l, want)
	}
}

func wantReset(t *testing.T, x *bearer.Table, id int, want ...string) {
	t.Helper()
	bad := x.Bad(id)
	if l, e := x.Reset(id); !same(l, want) || e != api.OK {
		t.Fatalf("Reset(%d): %q %v, want %q", id, l, e, want)
	}
	wantTold(t, x, id, told{bad: bad})
}

// wantNoBearer wants that each call of a bearer tells an error.
func wantNoBearer(t *testing.T, x *bearer.Table, id int, want api.Errno) {
	t.Helper()
	wantConfig(t, x, id, api.Config{}, want)
	for _, n := range []int{0, 1, api.MaxSDU + 1} {
		wantPush(t, x, id, long(n), 0, want)
	}
	for _, n := range []uint64{0, 1, math.MaxUint64} {
		wantDiscard(t, x, id, n, want)
	}
	for _, grant := range []int{-1, 0, 100, api.MaxGrant, api.MaxGrant + 1, math.MinInt} {
		wantNone(t, x, id, grant, want)
	}
	for _, b := range [][]byte{nil, {0x00}, []byte("ab"), umBytes(0, 0, "a"), amBytes(true, 0, 0, "a"), make([]byte, 5000)} {
		wantRefused(t, x, id, b, want, 0)
	}
	if l, e := x.Reset(id); len(l) != 0 || e != want {
		t.Fatalf("Reset(%d): %q %v, want %v", id, l, e, want)
	}
	wantTold(t, x, id, told{})
}

// P28.1

func TestNew(t *testing.T) {
	x := bearer.New()
	wantIDs(t, x)
	wantTick(t, x)
	for _, id := range append(absent, noIDs...) {
		wantNoBearer(t, x, id, api.ErrNone)
	}
}

func TestNoTable(t *testing.T) {
	for _, x := range []*bearer.Table{nil, {}} {
		for _, id := range append(absent, noIDs...) {
			for _, c := range []api.Config{{}, {Mode: 3}, pdu.Usual(api.TM), pdu.Usual(api.AM)} {
				wantAdd(t, x, id, c, api.ErrNil)
			}
			wantNoBearer(t, x, id, api.ErrNil)
		}
		wantIDs(t, x)
		wantTick(t, x)
	}
}

func TestCalls(t *testing.T) {
	var names []string
	for m := range reflect.TypeFor[*bearer.Table]().Methods() {
		names = append(names, m.Name)
	}
	want := []string{
		"Add", "Bad", "Build", "Config", "Discard", "Failed", "Hear", "IDs", "Push", "Reset", "Tick", "Unsure", "Waits",
	}
	if !slices.Equal(names, want) {
		t.Errorf("the calls %v, want %v", names, want)
	}
}

func TestAdd(t *testing.T) {
	for id := 1; id <= 31; id++ {
		x := bearer.New()
		c := pdu.Usual(id % 3)
		c.QueueBytes = id
		wantAdd(t, x, id, c, api.OK)
		wantIDs(t, x, id)
		wantConfig(t, x, id, c, api.OK)
		wantTold(t, x, id, told{})
		wantAdd(t, x, id, c, api.ErrTwice)
	}
}

func TestIDsRise(t *testing.T) {
	x := bearer.New()
	var want []int
	for i, id := range []int{31, 1, 16, 2, 30, 15, 8, 23} {
		wantAdd(t, x, id, pdu.Usual(i%3), api.OK)
		want = append(want, id)
		slices.Sort(want)
		wantIDs(t, x, want...)
	}
	for i, id := range []int{31, 1, 16, 2, 30, 15, 8, 23} {
		wantConfig(t, x, id, pdu.Usual(i%3), api.OK)
	}
}

// TestAddErrors: each error alone, and the first one where there are several.
func TestAddErrors(t *testing.T) {
	x := bearer.New()
	right, wrong := pdu.Usual(api.UM), pdu.Usual(api.UM)
	wrong.Window++
	kind := pdu.Usual(api.AM)
	kind.Mode = 3
	refused := func(ids []int, twice api.Errno) {
		t.Helper()
		before := x.IDs()
		for _, id := range noIDs {
			wantAdd(t, x, id, right, api.ErrArg)
			wantAdd(t, x, id, wrong, api.ErrArg)
			wantAdd(t, x, id, kind, api.ErrArg)
		}
		for _, id := range append(ids, 29) {
			wantAdd(t, x, id, wrong, api.ErrArg)
			wantAdd(t, x, id, kind, api.ErrKind)
		}
		for _, id := range ids {
			wantAdd(t, x, id, right, twice)
			wantConfig(t, x, id, pdu.Usual(api.TM), api.OK)
		}
		wantIDs(t, x, before...)
	}
	refused(nil, api.OK)
	var ids []int
	for i := range api.MaxBearers {
		ids = append(ids, 1+3*i)
		wantAdd(t, x, 1+3*i, pdu.Usual(api.TM), api.OK)
		refused(ids, api.ErrTwice)
	}
	for _, id := range []int{2, 3, 29, 31} {
		wantAdd(t, x, id, right, api.ErrFull)
		wantNoBearer(t, x, id, api.ErrNone)
	}
	wantIDs(t, x, ids...)
}

func TestConfig(t *testing.T) {
	x := usual(t)
	for id, mode := range modes {
		wantConfig(t, x, id, pdu.Usual(mode), api.OK)
	}
	for _, id := range append(absent, noIDs...) {
		wantNoBearer(t, x, id, api.ErrNone)
	}
}

// P28.2

func TestExample(t *testing.T) {
	x := bearer.New()
	wantAdd(t, x, 1, pdu.Usual(api.TM), api.OK)
	wantPush(t, x, 1, "ab", 1, api.OK)
	wantBuild(t, x, 1, 2, []byte("ab"))
}

func TestPush(t *testing.T) {
	for id, mode := range modes {
		x := bearer.New()
		c := pdu.Usual(mode)
		c.QueueBytes = 1005
		wantAdd(t, x, id, c, api.OK)
		wantPush(t, x, id, "", 0, api.ErrArg)
		wantPush(t, x, id, long(api.MaxSDU+1), 0, api.ErrLong)
		wantPush(t, x, id, long(api.MaxSDU), 1, api.OK)
		wantPush(t, x, id, long(6), 0, api.ErrFull)
		wantPush(t, x, id, long(5), 2, api.OK)
		wantTold(t, x, id, told{waits: 1005})
		wantDiscard(t, x, id, 0, api.ErrNone)
		wantDiscard(t, x, id, 3, api.ErrNone)
		wantDiscard(t, x, id, 1, api.OK)
		wantDiscard(t, x, id, 1, api.ErrNone)
		wantTold(t, x, id, told{waits: 5})
	}
}

// TestDiscardOfWhatIsBegun: of what went in part nothing is discarded; of TM nothing goes in part.
func TestDiscardOfWhatIsBegun(t *testing.T) {
	x := usual(t)
	for id := range modes {
		wantPush(t, x, id, "abcdef", 1, api.OK)
		x.Build(id, 5)
	}
	wantDiscard(t, x, um, 1, api.ErrState)
	wantDiscard(t, x, ac, 1, api.ErrState)
	wantDiscard(t, x, tm, 1, api.OK)
}

func TestBuild(t *testing.T) {
	x := usual(t)
	for id := range modes {
		wantPush(t, x, id, "ab", 1, api.OK)
		wantPush(t, x, id, "c", 2, api.OK)
	}
	wantBuild(t, x, tm, 100, []byte("ab"))
	wantBuild(t, x, um, 6, fromHex(t, "20002061"+"6263"))
	wantBuild(t, x, ac, 7, fromHex(t, "a4000020"+"616263"))
	wantBuild(t, x, tm, 1, []byte("c"))
	for id := range modes {
		wantNone(t, x, id, 100, api.ErrNone)
	}
}

func TestBuildErrors(t *testing.T) {
	x := usual(t)
	grants := []int{-1, math.MinInt, api.MaxGrant + 1, math.MaxInt, 1<<32 + 5}
	for id := range modes {
		for _, grant := range grants {
			wantNone(t, x, id, grant, api.ErrArg)
		}
		for _, grant := range []int{0, 1, api.MaxGrant} {
			wantNone(t, x, id, grant, api.ErrNone)
		}
		wantPush(t, x, id, "abc", 1, api.OK)
		for _, grant := range grants {
			wantNone(t, x, id, grant, api.ErrArg)
		}
	}
	for grant := range 3 {
		wantNone(t, x, tm, grant, api.ErrGrant)
		wantNone(t, x, um, grant/2, api.ErrGrant)
		wantNone(t, x, ac, grant, api.ErrGrant)
	}
	wantBuild(t, x, tm, 3, []byte("abc"))
	wantBuild(t, x, um, 2, umBytes(0, 1, "a"))
	wantBuild(t, x, ac, 3, amBytes(false, 0, 1, "a"))
}

func TestStalled(t *testing.T) {
	x := bearer.New()
	c := pdu.Usual(api.AM)
	c.Window = 1
	wantAdd(t, x, ac, c, api.OK)
	wantPush(t, x, ac, "abc", 1, api.OK)
	wantBuild(t, x, ac, 3, amBytes(true, 0, 1, "a"))
	wantNone(t, x, ac, 3, api.ErrWindow)
	wantTold(t, x, ac, told{waits: 2, unsure: 1})
}

func TestHearOfTM(t *testing.T) {
	x := usual(t)
	wantHear(t, x, tm, []byte("ab"), "ab")
	wantHear(t, x, tm, []byte("ab"), "ab")
	wantHear(t, x, tm, []byte(long(api.MaxSDU)), long(api.MaxSDU))
	wantHear(t, x, tm, []byte{0}, "\x00")
	wantRefused(t, x, tm, nil, api.ErrShort, 1)
	wantRefused(t, x, tm, make([]byte, api.MaxSDU+1), api.ErrLong, 1)
	wantTold(t, x, tm, told{bad: 2})
}

func TestHearOfUM(t *testing.T) {
	x := usual(t)
	wantHear(t, x, um, umBytes(0, 1, "A", "b"), "A")
	wantHear(t, x, um, umBytes(2, 0, "D"))
	wantRefused(t, x, um, umBytes(0, 0, "A"), api.ErrOld, 0)
	wantRefused(t, x, um, umBytes(2, 0, "D"), api.ErrTwice, 0)
	wantRefused(t, x, um, nil, api.ErrShort, 1)
	wantRefused(t, x, um, fromHex(t, "2300004100"), api.ErrForm, 1)
	wantHear(t, x, um, umBytes(1, 2, "c"), "bc", "D")
	wantTold(t, x, um, told{bad: 2})
}

func TestHearOfAM(t *testing.T) {
	x := usual(t)
	wantHear(t, x, ac, amBytes(false, 1, 0, "B"))
	wantHear(t, x, ac, amBytes(true, 0, 0, "A"), "A", "B")
	wantRefused(t, x, ac, amBytes(false, 1, 0, "B"), api.ErrWindow, 0)
	wantHear(t, x, ac, amBytes(false, 3, 0, "D"))
	wantRefused(t, x, ac, amBytes(false, 3, 0, "D"), api.ErrTwice, 0)
	wantRefused(t, x, ac, ack(1), api.ErrWindow, 0)
	wantRefused(t, x, ac, nil, api.ErrShort, 1)
	wantRefused(t, x, ac, fromHex(t, "0015"), api.ErrForm, 1)
	wantBuild(t, x, ac, 100, ack(2))
	wantTold(t, x, ac, told{bad: 2})
}

// TestWaits: of AM what is due waits, too; what is not acknowledged is unsure.
func TestWaits(t *testing.T) {
	x := usual(t)
	for id := range modes {
		wantPush(t, x, id, "abcd", 1, api.OK)
		wantTold(t, x, id, told{waits: 4})
		wantPush(t, x, id, "e", 2, api.OK)
		wantTold(t, x, id, told{waits: 5})
	}
	wantBuild(t, x, tm, 100, []byte("abcd"))
	wantTold(t, x, tm, told{waits: 1})
	wantBuild(t, x, um, 3, umBytes(0, 1, "ab"))
	wantTold(t, x, um, told{waits: 3})
	wantBuild(t, x, ac, 4, amBytes(false, 0, 1, "ab"))
	wantBuild(t, x, ac, 3, amBytes(false, 1, 3, "c"))
	wantTold(t, x, ac, told{waits: 2, unsure: 2})
	wantHear(t, x, ac, ack(2, 0))
	wantTold(t, x, ac, told{waits: 4, unsure: 1})
	wantBuild(t, x, ac, 4, amBytes(false, 0, 1, "ab"))
	wantTold(t, x, ac, told{waits: 2, unsure: 1})
	wantHear(t, x, ac, ack(2))
	wantTold(t, x, ac, told{waits: 2})
}

func TestFailed(t *testing.T) {
	x := bearer.New()
	c := pdu.Usual(api.AM)
	c.MaxRetx = 1
	wantAdd(t, x, ac, c, api.OK)
	wantAdd(t, x, 10, c, api.OK)
	wantPush(t, x, ac, "a", 1, api.OK)
	wantBuild(t, x, ac, 100, amBytes(true, 0, 0, "a"))
	wantHear(t, x, ac, ack(1, 0))
	wantTold(t, x, ac, told{waits: 1, unsure: 1, failed: true})
	wantTold(t, x, 10, told{})
	wantReset(t, x, ac)
}

// P28.3

func TestTick(t *testing.T) {
	x := bearer.New()
	c := pdu.Usual(api.UM)
	for i, id := range []int{20, 5, 12, 31} {
		c.Reorder = []int{2, 1, 2, 3}[i]
		wantAdd(t, x, id, c, api.OK)
	}
	wantAdd(t, x, 1, pdu.Usual(api.TM), api.OK)
	wantAdd(t, x, 15, pdu.Usual(api.AM), api.OK)
	wantIDs(t, x, 1, 5, 12, 15, 20, 31)
	for _, id := range []int{20, 5, 31} {
		text := long(id)
		wantHear(t, x, id, umBytes(2, 0, text, "x"))
		wantHear(t, x, id, umBytes(3, 0, "y"))
	}
	wantTick(t, x, nil, []string{long(5), "x", "y"}, nil, nil, nil, nil)
	wantTick(t, x, nil, nil, nil, nil, []string{long(20), "x", "y"}, nil)
	wantTick(t, x, nil, nil, nil, nil, nil, []string{long(31), "x", "y"})
	wantTick(t, x, nil, nil, nil, nil, nil, nil)
}

// TestTickOfAM: an entity's timers run.
func TestTickOfAM(t *testing.T) {
	x := usual(t)
	wantPush(t, x, ac, "a", 1, api.OK)
	wantBuild(t, x, ac, 100, amBytes(true, 0, 0, "a"))
	wantHear(t, x, ac, amBytes(false, 1, 0, "B"))
	for n := range 8 {
		if n == 4 {
			wantBuild(t, x, ac, 100, ack(2, 0))
		}
		wantTold(t, x, ac, told{unsure: 1})
		wantTick(t, x, nil, nil, nil)
	}
	wantTold(t, x, ac, told{waits: 1, unsure: 1})
	wantBuild(t, x, ac, 100, amBytes(true, 0, 0, "a"))
}

func TestResetOfTM(t *testing.T) {
	x := usual(t)
	wantReset(t, x, tm)
	wantPush(t, x, tm, "ab", 1, api.OK)
	wantRefused(t, x, tm, nil, api.ErrShort, 1)
	wantReset(t, x, tm)
	wantTold(t, x, tm, told{bad: 1})
	wantNone(t, x, tm, 100, api.ErrNone)
	wantPush(t, x, tm, "c", 2, api.OK)
	wantBuild(t, x, tm, 100, []byte("c"))
}

func TestResetOfUM(t *testing.T) {
	x := usual(t)
	wantReset(t, x, um)
	wantPush(t, x, um, "ab", 1, api.OK)
	wantBuild(t, x, um, 2, umBytes(0, 1, "a"))
	wantHear(t, x, um, umBytes(1, 0, "B", "C"))
	wantHear(t, x, um, umBytes(3, 1, "D", "e"))
	wantRefused(t, x, um, nil, api.ErrShort, 1)
	wantReset(t, x, um, "B", "C", "D")
	wantReset(t, x, um)
	wantTold(t, x, um, told{bad: 1})
	wantNone(t, x, um, 100, api.ErrNone)
	wantPush(t, x, um, "c", 2, api.OK)
	wantBuild(t, x, um, 100, umBytes(0, 0, "c"))
	wantHear(t, x, um, umBytes(0, 0, "A"), "A")
}

func TestResetOfAM(t *testing.T) {
	x := usual(t)
	wantReset(t, x, ac)
	wantPush(t, x, ac, "ab", 1, api.OK)
	wantBuild(t, x, ac, 3, amBytes(false, 0, 1, "a"))
	wantHear(t, x, ac, ack(1, 0))
	wantHear(t, x, ac, amBytes(true, 0, 1, "A"))
	wantHear(t, x, ac, amBytes(true, 2, 0, "C"))
	wantRefused(t, x, ac, nil, api.ErrShort, 1)
	wantReset(t, x, ac)
	wantTold(t, x, ac, told{bad: 1})
	wantNone(t, x, ac, 100, api.ErrNone)
	wantPush(t, x, ac, "c", 2, api.OK)
	wantBuild(t, x, ac, 100, amBytes(true, 0, 0, "c"))
	wantHear(t, x, ac, amBytes(false, 0, 0, "A"), "A")
}

// rules 4 and 5 of the document

func TestWhatIsHandedInIsNotKept(t *testing.T) {
	x := usual(t)
	for id := range modes {
		text := []byte("abcxyz")
		if _, e := x.Push(id, text[:3]); e != api.OK {
			t.Fatalf("Push: %v", e)
		}
		copy(text, "......")
	}
	wantBuild(t, x, tm, 3, []byte("abc"))
	wantBuild(t, x, um, 4, umBytes(0, 0, "abc"))
	wantBuild(t, x, ac, 5, amBytes(true, 0, 0, "abc"))
	for id, b := range map[int][]byte{tm: []byte("A"), um: umBytes(1, 0, "A"), ac: amBytes(false, 1, 0, "A")} {
		n := len(b)
		b = append(b, "xyz"...)
		was := bytes.Clone(b)
		l, e := x.Hear(id, b[:n])
		if e != api.OK || !bytes.Equal(b, was) {
			t.Errorf("Hear: %q %v; what was handed in is %x", l, e, b)
		}
		clear(b)
		if id == tm && !same(l, []string{"A"}) {
			t.Errorf("what was handed in is told: %q", l)
		}
	}
	wantHear(t, x, um, umBytes(0, 0, "B"), "B", "A")
	wantHear(t, x, ac, amBytes(false, 0, 0, "B"), "B", "A")
}

func TestWhatIsHandedOutIsNewMemory(t *testing.T) {
	x := usual(t)
	ids := x.IDs()
	if cap(ids) != 3 {
		t.Errorf("there is room behind %v: %d", ids, cap(ids))
	}
	clear(ids)
	wantIDs(t, x, tm, ac, um)
	for id := range modes {
		wantPush(t, x, id, "abc", 1, api.OK)
		b, _ := x.Build(id, 100)
		if cap(b) != len(b) {
			t.Errorf("there is room behind %x", b)
		}
		clear(b)
	}
	wantHear(t, x, um, umBytes(1, 1, "A", "b"))
	var told [][][]byte
	for range 4 {
		told = x.Tick()
	}
	if len(told) != 3 || cap(told) != 3 || !same(told[2], []string{"A"}) || cap(told[2]) != 1 || cap(told[2][0]) != 1 {
		t.Errorf("Tick: %q", told)
	}
	l, _ := x.Hear(tm, []byte("A"))
	if len(l) != 1 || cap(l) != 1 || cap(l[0]) != 1 {
		t.Errorf("Hear: %q", l)
	}
	wantHear(t, x, um, umBytes(2, 2, "c"), "bc")
	wantHear(t, x, ac, ack(1, 0))
	wantBuild(t, x, ac, 100, amBytes(true, 0, 0, "abc"))
}
