package plain_test

import (
	"bytes"
	"math"
	"math/rand"
	"slices"
	"strings"
	"testing"

	"bowline/api"
	"bowline/pdu"
	"bowline/plain"
)

// grants is grants that may not be.
var grants = []int{-1, -2, math.MinInt, api.MaxGrant + 1, math.MaxInt, 1<<32 + 5}

// of is an entity with a room.
func of(t *testing.T, room int) *plain.Entity {
	t.Helper()
	x, e := plain.New(api.Config{Mode: api.TM, QueueBytes: room})
	if x == nil || e != api.OK {
		t.Fatalf("New: %v", e)
	}
	return x
}

// pushed is an entity of texts.
func pushed(t *testing.T, texts ...string) *plain.Entity {
	t.Helper()
	x := of(t, api.MaxBytes)
	for i, text := range texts {
		wantPush(t, x, text, uint64(i+1), api.OK)
	}
	return x
}

// long is a text of so many bytes.
func long(n int) string { return strings.Repeat("0123456789", n/10+1)[:n] }

func wantPush(t *testing.T, x *plain.Entity, text string, want uint64, e api.Errno) {
	t.Helper()
	if id, f := x.Push([]byte(text)); id != want || f != e {
		t.Fatalf("Push of %d bytes: %d %v, want %d %v", len(text), id, f, want, e)
	}
}

func wantDiscard(t *testing.T, x *plain.Entity, id uint64, want api.Errno) {
	t.Helper()
	if e := x.Discard(id); e != want {
		t.Fatalf("Discard(%d): %v, want %v", id, e, want)
	}
}

func wantBytes(t *testing.T, x *plain.Entity, want int) {
	t.Helper()
	if n := x.Bytes(); n != want {
		t.Fatalf("Bytes: %d, want %d", n, want)
	}
}

func wantReset(t *testing.T, x *plain.Entity, want ...uint64) {
	t.Helper()
	if l := x.Reset(); !slices.Equal(l, want) {
		t.Fatalf("Reset: %v, want %v", l, want)
	}
	wantBytes(t, x, 0)
}

func wantBuild(t *testing.T, x *plain.Entity, grant int, text string, id uint64) {
	t.Helper()
	before := x.Bytes()
	if b, n, e := x.Build(grant); string(b) != text || n != id || e != api.OK {
		t.Fatalf("Build(%d): %q %d %v, want %q %d", grant, b, n, e, text, id)
	}
	wantBytes(t, x, before-len(text))
}

func wantNone(t *testing.T, x *plain.Entity, grant int, want api.Errno) {
	t.Helper()
	before := x.Bytes()
	if b, n, e := x.Build(grant); len(b) != 0 || n != 0 || e != want {
		t.Fatalf("Build(%d): %q %d %v, want %v", grant, b, n, e, want)
	}
	wantBytes(t, x, before)
}

func wantHear(t *testing.T, x *plain.Entity, b []byte, want string, e api.Errno) {
	t.Helper()
	if c, f := x.Hear(b); string(c) != want || f != e {
		t.Fatalf("Hear of %d bytes: %q %v, want %q %v", len(b), c, f, want, e)
	}
}

func wantNoNew(t *testing.T, c api.Config, want api.Errno) {
	t.Helper()
	if x, e := plain.New(c); x != nil || e != want {
		t.Fatalf("New(%+v): %v %v, want %v", c, x != nil, e, want)
	}
}

// P15.1

func TestNew(t *testing.T) {
	for _, room := range []int{1, 2, api.MaxSDU, api.MaxBytes - 1, api.MaxBytes} {
		x := of(t, room)
		wantBytes(t, x, 0)
		wantNone(t, x, api.MaxGrant, api.ErrNone)
		wantReset(t, x)
	}
	if x, e := plain.New(pdu.Usual(api.TM)); x == nil || e != api.OK {
		t.Errorf("New of the usual config: %v", e)
	}
}

func TestNewOfOtherModes(t *testing.T) {
	for _, mode := range []int{api.UM, api.AM} {
		c := pdu.Usual(mode)
		wantNoNew(t, c, api.ErrKind)
		// a config that may not be is Check's to refuse, whichever mode it has
		c.QueueBytes = 0
		wantNoNew(t, c, api.ErrArg)
	}
	for _, mode := range []int{-1, 3, math.MinInt, math.MaxInt, 1 << 32} {
		wantNoNew(t, api.Config{Mode: mode, QueueBytes: 5000}, api.ErrKind)
		wantNoNew(t, api.Config{Mode: mode}, api.ErrKind)
	}
}

func TestNewOfWrongConfigs(t *testing.T) {
	for _, room := range []int{0, -1, api.MaxBytes + 1, math.MinInt, math.MaxInt} {
		wantNoNew(t, api.Config{QueueBytes: room}, api.ErrArg)
	}
	for _, n := range []int{1, -1} {
		for _, c := range []api.Config{
			{Bits: n}, {Window: n}, {Reorder: n}, {PollRetx: n}, {Prohibit: n},
			{PollPDU: n}, {PollByte: n}, {MaxRetx: n},
		} {
			c.QueueBytes = 5000
			wantNoNew(t, c, api.ErrArg)
		}
	}
}

func TestNoEntity(t *testing.T) {
	for _, x := range []*plain.Entity{nil, {}} {
		for range 2 {
			for _, n := range []int{0, 1, api.MaxSDU, api.MaxSDU + 1} {
				wantPush(t, x, long(n), 0, api.ErrNil)
				wantHear(t, x, []byte(long(n)), "", api.ErrNil)
			}
			for _, id := range []uint64{0, 1, math.MaxUint64} {
				wantDiscard(t, x, id, api.ErrNil)
			}
			for _, grant := range append(grants, 0, 1, api.MaxGrant) {
				wantNone(t, x, grant, api.ErrNil)
			}
			wantReset(t, x)
		}
	}
}

func TestPush(t *testing.T) {
	x := of(t, 1003)
	wantPush(t, x, "", 0, api.ErrArg)
	wantPush(t, x, long(api.MaxSDU+1), 0, api.ErrLong)
	wantPush(t, x, long(5000), 0, api.ErrLong)
	wantPush(t, x, long(api.MaxSDU), 1, api.OK)
	wantPush(t, x, "abcd", 0, api.ErrFull)
	wantPush(t, x, "abc", 2, api.OK)
	wantPush(t, x, "d", 0, api.ErrFull)
	wantBytes(t, x, 1003)
	wantBuild(t, x, api.MaxSDU, long(api.MaxSDU), 1)
	wantPush(t, x, "d", 3, api.OK)
	wantBytes(t, x, 4)
}

func TestMostTexts(t *testing.T) {
	x := pushed(t, slices.Repeat([]string{"a"}, api.MaxQueue)...)
	wantPush(t, x, "b", 0, api.ErrFull)
	wantBuild(t, x, 1, "a", 1)
	wantPush(t, x, "b", api.MaxQueue+1, api.OK)
	wantPush(t, x, "b", 0, api.ErrFull)
}

func TestDiscard(t *testing.T) {
	x := pushed(t, "ab", "c", "def")
	wantDiscard(t, x, 0, api.ErrNone)
	wantDiscard(t, x, 4, api.ErrNone)
	wantDiscard(t, x, 2, api.OK)
	wantDiscard(t, x, 2, api.ErrNone)
	wantBytes(t, x, 5)
	wantBuild(t, x, 3, "ab", 1)
	wantDiscard(t, x, 1, api.ErrNone)
	wantBuild(t, x, 3, "def", 3)
	wantNone(t, x, 3, api.ErrNone)
	// what was refused was not begun
	x = pushed(t, "ab", "c")
	wantNone(t, x, 1, api.ErrGrant)
	wantDiscard(t, x, 1, api.OK)
	wantBuild(t, x, 1, "c", 2)
}

func TestReset(t *testing.T) {
	x := pushed(t, "ab", "c", "def")
	wantBuild(t, x, 2, "ab", 1)
	wantReset(t, x, 2, 3)
	wantNone(t, x, api.MaxGrant, api.ErrNone)
	wantReset(t, x)
	wantPush(t, x, "g", 4, api.OK)
	wantBuild(t, x, 1, "g", 4)
}

// P15.2

func TestExample(t *testing.T) {
	x := pushed(t, "ab")
	wantNone(t, x, 1, api.ErrGrant)
	wantBuild(t, x, 2, "ab", 1)
	wantNone(t, x, 2, api.ErrNone)
}

func TestBuildOfEachLength(t *testing.T) {
	for _, n := range []int{1, 2, 3, 255, 256, api.MaxSDU - 1, api.MaxSDU} {
		for _, grant := range []int{0, 1, 2, n - 1, n, n + 1, api.MaxSDU, api.MaxPDU + 1, api.MaxGrant} {
			x := pushed(t, long(n), "z")
			if n > grant {
				wantNone(t, x, grant, api.ErrGrant)
				grant = n
			}
			wantBuild(t, x, grant, long(n), 1)
			wantBuild(t, x, 1, "z", 2)
		}
	}
}

func TestBuildOfWrongGrants(t *testing.T) {
	x := of(t, 100)
	for _, grant := range grants {
		wantNone(t, x, grant, api.ErrArg)
	}
	wantNone(t, x, 0, api.ErrNone)
	wantPush(t, x, "ab", 1, api.OK)
	for _, grant := range grants {
		wantNone(t, x, grant, api.ErrArg)
	}
	wantNone(t, x, 0, api.ErrGrant)
	wantBuild(t, x, api.MaxGrant, "ab", 1)
	wantNone(t, x, api.MaxGrant, api.ErrNone)
}

func TestBuildWaitsForTheFirst(t *testing.T) {
	x := pushed(t, "abc", "d")
	wantNone(t, x, 2, api.ErrGrant) // d would fit, but is not the first
	wantBuild(t, x, 4, "abc", 1)    // one text alone
	wantBuild(t, x, 4, "d", 2)
}

func TestHear(t *testing.T) {
	x := of(t, 1) // its room is no limit of what it hears
	wantHear(t, x, nil, "", api.ErrShort)
	wantHear(t, x, []byte{}, "", api.ErrShort)
	wantHear(t, x, []byte{0}, "\x00", api.OK)
	wantHear(t, x, []byte{0x80, 0x05, 0x41}, "\x80\x05A", api.OK)
	wantHear(t, x, []byte(long(api.MaxSDU)), long(api.MaxSDU), api.OK)
	wantHear(t, x, []byte(long(api.MaxSDU+1)), "", api.ErrLong)
	wantHear(t, x, []byte(long(api.MaxGrant)), "", api.ErrLong)
	wantBytes(t, x, 0)
	wantNone(t, x, api.MaxGrant, api.ErrNone)
}

func TestHearHoldsNothing(t *testing.T) {
	x := pushed(t, "ab")
	for range 3 { // the same text is heard as often as it comes
		wantHear(t, x, []byte("cd"), "cd", api.OK)
	}
	wantBytes(t, x, 2)
	wantBuild(t, x, 2, "ab", 1)
}

// P15.3

func TestTextsComeAsTheyWere(t *testing.T) {
	for seed := range int64(100) {
		r := rand.New(rand.NewSource(seed))
		x, y := of(t, 1+r.Intn(4000)), of(t, 1)
		ids, texts, last := []uint64(nil), [][]byte(nil), uint64(0)
		for range 300 {
			switch at := r.Intn(len(ids) + 3); {
			case at < len(ids) && r.Intn(4) == 0:
				wantDiscard(t, x, ids[at], api.OK)
				ids, texts = slices.Delete(ids, at, at+1), slices.Delete(texts, at, at+1)
			case r.Intn(2) == 0:
				b := make([]byte, 1+r.Intn(200))
				r.Read(b)
				if _, e := x.Push(b); e == api.OK {
					last++
					ids, texts = append(ids, last), append(texts, b)
				}
			default:
				grant := r.Intn(250)
				switch {
				case len(ids) == 0:
					wantNone(t, x, grant, api.ErrNone)
				case len(texts[0]) > grant:
					wantNone(t, x, grant, api.ErrGrant)
				default:
					wantBuild(t, x, grant, string(texts[0]), ids[0])
					wantHear(t, y, texts[0], string(texts[0]), api.OK)
					ids, texts = ids[1:], texts[1:]
				}
			}
			wantBytes(t, x, len(bytes.Join(texts, nil)))
		}
		wantReset(t, x, ids...)
	}
}

// rules 4 and 5 of the document

func TestWhatIsHandedInIsNotKept(t *testing.T) {
	x := of(t, 100)
	b := []byte("abcd")
	if _, e := x.Push(b[:2]); e != api.OK {
		t.Fatalf("Push: %v", e)
	}
	c, e := x.Hear(b[:2])
	if e != api.OK || cap(c) != 2 {
		t.Fatalf("Hear: room for %d, %v", cap(c), e)
	}
	copy(b, "xxxx")
	if string(c) != "ab" {
		t.Errorf("heard: %q", c)
	}
	wantBuild(t, x, 2, "ab", 1)
	copy(c, "zz")
	if string(b) != "xxxx" {
		t.Errorf("handed in: %q", b)
	}
}

func TestWhatIsHandedOutIsNewMemory(t *testing.T) {
	x := pushed(t, "ab", "cd")
	b, _, e := x.Build(10)
	if e != api.OK || cap(b) != 2 {
		t.Fatalf("Build: room for %d, %v", cap(b), e)
	}
	copy(b, "xx")
	wantBuild(t, x, 10, "cd", 2)
}

func TestEntitiesAreTheirOwn(t *testing.T) {
	a, b := pushed(t, "ab"), pushed(t, "cd", "ef")
	wantBuild(t, a, 2, "ab", 1)
	wantBytes(t, b, 4)
	wantBuild(t, b, 2, "cd", 1)
	wantReset(t, a)
	wantReset(t, b, 2)
}
