package mux_test

import (
	"bytes"
	"fmt"
	"math"
	"math/rand"
	"slices"
	"testing"

	"bowline/api"
	"bowline/check"
	"bowline/mux"
)

const (
	mostParts = 16
	mostData  = 2047
)

// some is so many bytes, the same ones for each seed.
func some(seed int64, n int) []byte {
	b := make([]byte, n)
	rand.New(rand.NewSource(seed)).Read(b)
	return b
}

func part(id int, data string) mux.Part { return mux.Part{ID: id, Data: []byte(data)} }

// long is a part with so many bytes.
func long(id, n int) mux.Part { return mux.Part{ID: id, Data: some(int64(id), n)} }

// many is so many parts of a byte each.
func many(n int) []mux.Part {
	var l []mux.Part
	for at := range n {
		l = append(l, mux.Part{ID: 1 + at%31, Data: []byte{byte(at)}})
	}
	return l
}

// brief is the beginning of what is told of something.
func brief(of any) string {
	text := fmt.Sprintf("%x", of)
	return text[:min(len(text), 300)]
}

// laid is the bytes ahead of the sum in parts' block, as numbers of sixteen bits and what is behind them.
func laid(l []mux.Part) []byte {
	var b []byte
	for _, p := range l {
		head := p.ID*2048 + len(p.Data)
		b = append(b, byte(head/256), byte(head%256))
		b = append(b, p.Data...)
	}
	return b
}

// modelWrite is what Write asks for, word by word.
func modelWrite(l []mux.Part) ([]byte, api.Errno) {
	n := 2
	for _, p := range l {
		if p.ID < 1 || p.ID > 31 || len(p.Data) < 1 || len(p.Data) > mostData {
			return nil, api.ErrForm
		}
		n += 2 + len(p.Data)
	}
	if len(l) > mostParts || n > api.MaxGrant {
		return nil, api.ErrLong
	}
	return check.Close(laid(l)), api.OK
}

// modelRead is what Read asks for of bytes ahead of a sum that is right, word by word.
func modelRead(b []byte) ([]mux.Part, api.Errno) {
	var l []mux.Part
	for at := 0; at < len(b); {
		if len(l) >= mostParts {
			return nil, api.ErrLong
		}
		if at+1 == len(b) {
			return nil, api.ErrShort
		}
		head := int(b[at])*256 + int(b[at+1])
		id, n := head/2048, head%2048
		if n > len(b)-at-2 {
			return nil, api.ErrShort
		}
		if id == 0 || n == 0 {
			return nil, api.ErrForm
		}
		l = append(l, mux.Part{ID: id, Data: b[at+2 : at+2+n]})
		at += 2 + n
	}
	return l, api.OK
}

// same is whether parts are equal, said without the package.
func same(a, b []mux.Part) bool {
	if len(a) != len(b) {
		return false
	}
	for at := range a {
		if a[at].ID != b[at].ID || string(a[at].Data) != string(b[at].Data) {
			return false
		}
	}
	return true
}

// wantWrite wants a block, its size, and that it is read as it was.
func wantWrite(t *testing.T, l []mux.Part, want []byte) {
	t.Helper()
	b, e := mux.Write(l)
	if e != api.OK || !bytes.Equal(b, want) {
		t.Fatalf("Write(%s): %s %v, want %s", brief(l), brief(b), e, brief(want))
	}
	if n := mux.Size(l); n != len(want) {
		t.Fatalf("Size(%s): %d, want %d", brief(l), n, len(want))
	}
	wantRead(t, b, l)
}

func wantNoBlock(t *testing.T, l []mux.Part, want api.Errno) {
	t.Helper()
	if b, e := mux.Write(l); e != want || len(b) != 0 {
		t.Fatalf("Write(%s): %s %v, want %v", brief(l), brief(b), e, want)
	}
	if n := mux.Size(l); n != 0 {
		t.Fatalf("Size(%s): %d", brief(l), n)
	}
}

func wantRead(t *testing.T, b []byte, want []mux.Part) {
	t.Helper()
	if l, e := mux.Read(b); e != api.OK || !same(l, want) {
		t.Fatalf("Read(%s): %s %v, want %s", brief(b), brief(l), e, brief(want))
	}
}

func wantNoParts(t *testing.T, b []byte, want api.Errno) {
	t.Helper()
	if l, e := mux.Read(b); e != want || len(l) != 0 {
		t.Fatalf("Read(%s): %s %v, want %v", brief(b), brief(l), e, want)
	}
}

// wantModelRead wants of bytes with their sum what the model says of them.
func wantModelRead(t *testing.T, b []byte) api.Errno {
	t.Helper()
	l, e := modelRead(b)
	if e == api.OK {
		wantRead(t, check.Close(b), l)
	} else {
		wantNoParts(t, check.Close(b), e)
	}
	return e
}

// P30.1

func TestOver(t *testing.T) {
	if mux.Over != 2 {
		t.Errorf("Over: %d", mux.Over)
	}
	for n := 1; n <= mostData; n++ {
		l := []mux.Part{long(1, n)}
		if size := mux.Size(l); size != mux.Size(nil)+mux.Over+n {
			t.Fatalf("Size of a part of %d bytes: %d", n, size)
		}
	}
}

func TestExample(t *testing.T) {
	wantWrite(t, nil, []byte{0xFF, 0xFF})
	wantWrite(t, []mux.Part{}, []byte{0xFF, 0xFF})
}

func TestWrite(t *testing.T) {
	for _, c := range []struct {
		l    []mux.Part
		want string
	}{
		{[]mux.Part{part(1, "A")}, "\x08\x01A"},
		{[]mux.Part{part(31, "A")}, "\xF8\x01A"},
		{[]mux.Part{part(16, "\x00")}, "\x80\x01\x00"},
		{[]mux.Part{part(5, "abc")}, "\x28\x03abc"},
		{[]mux.Part{part(2, "ab"), part(1, "c")}, "\x10\x02ab\x08\x01c"},
		// one ID may stand there twice
		{[]mux.Part{part(3, "a"), part(3, "a")}, "\x18\x01a\x18\x01a"},
		{[]mux.Part{long(3, 255)}, "\x18\xFF" + string(some(3, 255))},
		{[]mux.Part{long(3, 256)}, "\x19\x00" + string(some(3, 256))},
		{[]mux.Part{long(30, mostData)}, "\xF7\xFF" + string(some(30, mostData))},
	} {
		wantWrite(t, c.l, check.Close([]byte(c.want)))
	}
}

func TestWriteOfEachIDAndLength(t *testing.T) {
	for id := 1; id <= 31; id++ {
		for _, n := range []int{1, 2, 7, 8, 127, 128, 255, 256, 1023, 1024, mostData - 1, mostData} {
			l := []mux.Part{long(id, n)}
			wantWrite(t, l, check.Close(laid(l)))
		}
	}
}

// wrong are parts that may not be because of one thing alone.
var wrong = []mux.Part{
	{},
	part(0, "a"),
	part(-1, "a"),
	part(32, "a"),
	part(33, "a"),
	part(math.MinInt, "a"),
	part(math.MaxInt, "a"),
	part(1+1<<32, "a"),
	{ID: 1},
	part(1, ""),
	part(31, ""),
	long(1, mostData+1),
	long(31, mostData+2),
	long(1, api.MaxGrant),
	long(1, api.MaxText),
}

func TestPartsThatMayNotBe(t *testing.T) {
	for _, p := range wrong {
		for n := range 4 {
			for at := range n + 1 {
				wantNoBlock(t, slices.Insert(many(n), at, p), api.ErrForm)
			}
		}
	}
}

func TestHowManyParts(t *testing.T) {
	for n := range mostParts + 1 {
		wantWrite(t, many(n), check.Close(laid(many(n))))
	}
	for _, n := range []int{mostParts + 1, mostParts + 2, 31, 32, 100, 1000} {
		wantNoBlock(t, many(n), api.ErrLong)
	}
}

func TestHowManyBytes(t *testing.T) {
	for over := -3; over <= 3; over++ {
		n := api.MaxGrant + over
		first := mostData - 5
		for _, l := range [][]mux.Part{
			{long(1, first), long(2, n-8-first-3), part(4, "abc")},
			{part(4, "abc"), long(2, n-8-first-3), long(1, first)},
			{long(1, mostData), long(2, n-8-mostData-1), part(4, "a")},
		} {
			if over > 0 {
				wantNoBlock(t, l, api.ErrLong)
				continue
			}
			wantWrite(t, l, check.Close(laid(l)))
			if size := mux.Size(l); size != n {
				t.Fatalf("Size: %d, want %d", size, n)
			}
		}
	}
	// two of the longest parts have more than a block
	wantNoBlock(t, []mux.Part{long(1, mostData), long(2, mostData)}, api.ErrLong)
	wantNoBlock(t, slices.Repeat([]mux.Part{long(1, mostData)}, mostParts), api.ErrLong)
	wantNoBlock(t, slices.Repeat([]mux.Part{long(1, mostData)}, 1000), api.ErrLong)
}

func TestWriteFirstErrorFirst(t *testing.T) {
	for _, p := range wrong {
		for _, l := range [][]mux.Part{
			many(mostParts),
			many(mostParts + 1),
			many(100),
			{long(1, mostData), long(2, mostData), long(3, mostData)},
		} {
			wantNoBlock(t, append(slices.Clone(l), p), api.ErrForm)
			wantNoBlock(t, append([]mux.Part{p}, l...), api.ErrForm)
		}
	}
}

func TestSame(t *testing.T) {
	for _, c := range []struct {
		a, b []mux.Part
		want bool
	}{
		{nil, nil, true},
		{nil, []mux.Part{}, true},
		{nil, many(1), false},
		{[]mux.Part{{}}, nil, false},
		{many(3), many(3), true},
		{many(3), many(2), false},
		{[]mux.Part{part(1, "a")}, []mux.Part{part(1, "a")}, true},
		{[]mux.Part{part(1, "a")}, []mux.Part{part(2, "a")}, false},
		{[]mux.Part{part(1, "a")}, []mux.Part{part(1, "b")}, false},
		{[]mux.Part{part(1, "a")}, []mux.Part{part(1, "ab")}, false},
		{[]mux.Part{part(1, "ab")}, []mux.Part{part(1, "ac")}, false},
		{[]mux.Part{part(1, "a"), part(2, "b")}, []mux.Part{part(2, "b"), part(1, "a")}, false},
		{[]mux.Part{part(1, "a"), part(2, "b")}, []mux.Part{part(1, "a"), part(2, "c")}, false},
		{[]mux.Part{part(1, "a"), part(2, "b")}, []mux.Part{part(1, "a"), part(3, "b")}, false},
		// parts that may not be are held against each other, too
		{[]mux.Part{{ID: 1}}, []mux.Part{part(1, "")}, true},
		{[]mux.Part{{ID: 1}}, []mux.Part{{ID: 0}}, false},
		{[]mux.Part{part(-5, "a")}, []mux.Part{part(-5, "a")}, true},
		{[]mux.Part{part(5, "a")}, []mux.Part{part(5+32, "a")}, false},
		{[]mux.Part{long(1, api.MaxText)}, []mux.Part{long(1, api.MaxText)}, true},
	} {
		if mux.Same(c.a, c.b) != c.want || mux.Same(c.b, c.a) != c.want {
			t.Errorf("Same(%s, %s): not %v", brief(c.a), brief(c.b), c.want)
		}
	}
}

// P30.2

func TestReadOfLongBytes(t *testing.T) {
	for _, n := range []int{api.MaxGrant + 1, api.MaxGrant + 2, 2 * api.MaxGrant, api.MaxText} {
		wantNoParts(t, make([]byte, n), api.ErrLong) // its sum is wrong, too
		wantNoParts(t, check.Close(make([]byte, n-2)), api.ErrLong)
		wantNoParts(t, check.Close(slices.Repeat([]byte("\x08\x01a"), n/3+1)[:n-2]), api.ErrLong)
	}
	l := []mux.Part{long(1, mostData), long(2, mostData-5), part(3, "a")}
	wantRead(t, check.Close(laid(l[:2])), l[:2])
	wantNoParts(t, check.Close(laid(l)), api.ErrLong)
	wantNoParts(t, make([]byte, api.MaxGrant), api.ErrSum)
}

func TestReadWithoutASum(t *testing.T) {
	wantNoParts(t, nil, api.ErrShort)
	wantNoParts(t, []byte{}, api.ErrShort)
	for v := range 256 {
		wantNoParts(t, []byte{byte(v)}, api.ErrShort)
	}
	for v := range 1 << 16 {
		b := []byte{byte(v >> 8), byte(v)}
		if v == 0xFFFF {
			wantRead(t, b, nil)
		} else {
			wantNoParts(t, b, api.ErrSum)
		}
	}
	// whatever else is wrong, the sum is looked at first
	wantNoParts(t, []byte("\x08\x01a\x00\x00"), api.ErrSum)
	wantNoParts(t, []byte("\x00\x00\x00\x00"), api.ErrSum)
	wantNoParts(t, append(laid(many(mostParts+1)), 0, 0), api.ErrSum)
}

func TestRead(t *testing.T) {
	for _, c := range []struct {
		b    string
		want api.Errno
	}{
		{"\x08", api.ErrShort},
		{"\x00", api.ErrShort},
		{"\x08\x01", api.ErrShort},
		{"\x08\x02a", api.ErrShort},
		{"\xF7\xFFa", api.ErrShort},
		{"\x08\x01a", api.OK},
		{"\x08\x01a\x08", api.ErrShort},
		{"\x08\x01a\x10\x01", api.ErrShort},
		{"\x08\x01a\x10\x01b", api.OK},
		{"\x08\x00", api.ErrForm},
		{"\x08\x00a", api.ErrForm},
		{"\x00\x01a", api.ErrForm},
		{"\x00\x00", api.ErrForm},
		{"\x08\x01a\x00\x01b", api.ErrForm},
		{"\x08\x01a\x10\x00", api.ErrForm},
		// the missing bytes ahead of the ID
		{"\x00\x02a", api.ErrShort},
		{"\x00\x01", api.ErrShort},
		// the first part's fault, not the second one's
		{"\x08\x00\x08", api.ErrForm},
		{"\x00\x01a\x08\x09b", api.ErrForm},
	} {
		if got := wantModelRead(t, []byte(c.b)); got != c.want {
			t.Fatalf("the model of %q: %v, want %v", c.b, got, c.want)
		}
	}
}

func TestReadOfManyParts(t *testing.T) {
	full := laid(many(mostParts))
	wantRead(t, check.Close(full), many(mostParts))
	// whatever follows: it is one too many
	for _, behind := range []string{"a", "\x00", "\x08\x00", "\x08\x01", "\x00\x01a", "\x08\x01a", "\x08\x01a\x08\x01a"} {
		wantNoParts(t, check.Close(append(slices.Clone(full), behind...)), api.ErrLong)
	}
	wantNoParts(t, check.Close(laid(many(17))), api.ErrLong)
	// but of the parts ahead of it what is wrong comes first
	wantNoParts(t, check.Close(append([]byte("\x00\x01a"), full...)), api.ErrForm)
	wantNoParts(t, check.Close(append(laid(many(15)), "\x08\x00\x08\x01a"...)), api.ErrForm)
	wantNoParts(t, check.Close(append(laid(many(15)), "\x08\x05a"...)), api.ErrShort)
}

func TestReadOfAllShortBytesIsAsTheModel(t *testing.T) {
	met := map[api.Errno]int{}
	for v := range 1 << 16 {
		b := []byte{byte(v >> 8), byte(v)}
		met[wantModelRead(t, b)]++
		met[wantModelRead(t, append(b, 1))]++
		met[wantModelRead(t, append(b, 8, 1, 9))]++
		met[wantModelRead(t, append([]byte{8, 1, 9}, b...))]++
	}
	for _, e := range []api.Errno{api.OK, api.ErrShort, api.ErrForm} {
		if met[e] < 50 {
			t.Errorf("%v was met %d times", e, met[e])
		}
	}
}

func TestReadIsAsTheModel(t *testing.T) {
	r := rand.New(rand.NewSource(3))
	met := map[api.Errno]int{}
	for range 20000 {
		var b []byte
		for range r.Intn(20) {
			n := r.Intn(6)
			id := 1 + r.Intn(31)
			if r.Intn(30) == 0 {
				id = 0
			}
			if r.Intn(4) > 0 {
				n++
			}
			b = append(b, byte(id<<3), byte(n))
			b = append(b, some(r.Int63(), n)...)
		}
		if r.Intn(3) == 0 && len(b) > 0 {
			b = b[:r.Intn(len(b))]
		}
		met[wantModelRead(t, b)]++
	}
	for _, e := range []api.Errno{api.OK, api.ErrShort, api.ErrForm, api.ErrLong} {
		if met[e] < 400 {
			t.Errorf("%v was met %d times", e, met[e])
		}
	}
}

// P30.3

func TestThereAndBack(t *testing.T) {
	r := rand.New(rand.NewSource(4))
	met := map[api.Errno]int{}
	for range 3000 {
		l := make([]mux.Part, r.Intn(mostParts+2))
		for at := range l {
			l[at] = long(1+r.Intn(31), 1+r.Intn(1+r.Intn(600)))
			if r.Intn(50) == 0 {
				l[at].ID = 32 * r.Intn(2)
			}
		}
		want, e := modelWrite(l)
		met[e]++
		if e == api.OK {
			wantWrite(t, l, want)
		} else {
			wantNoBlock(t, l, e)
		}
	}
	for _, e := range []api.Errno{api.OK, api.ErrForm, api.ErrLong} {
		if met[e] < 20 {
			t.Errorf("%v was met %d times", e, met[e])
		}
	}
}

// What is read can be written in one way alone: as it was.
func TestInOneWayAlone(t *testing.T) {
	read := 0
	try := func(b []byte) {
		l, e := mux.Read(b)
		if e != api.OK {
			return
		}
		read++
		if c, e := mux.Write(l); e != api.OK || !bytes.Equal(b, c) {
			t.Fatalf("%x was read, but %x (%v) is written", b, c, e)
		}
	}
	for v := range 1 << 16 {
		b := []byte{byte(v >> 8), byte(v), 0x41}
		try(check.Close(b))
		try(check.Close(append(b, 0x42)))
		try(b)
		try(check.Close(append([]byte{0x10, 1, 7}, b...)))
	}
	if read < 90 {
		t.Errorf("%d were read", read)
	}
}

// P30.4

// turned is bytes whose bits are turned where a pattern's sixteen bits, laid from a bit on, are 1; false, if one of these is behind the end.
func turned(b []byte, at int, pattern uint16) ([]byte, bool) {
	c := bytes.Clone(b)
	for i := range 16 {
		if pattern>>(15-i)&1 == 0 {
			continue
		}
		if at+i >= 8*len(c) {
			return nil, false
		}
		c[(at+i)/8] ^= 0x80 >> ((at + i) % 8)
	}
	return c, true
}

func TestTurnedBitsAreTold(t *testing.T) {
	for _, l := range [][]mux.Part{nil, {part(5, "k")}} {
		b, _ := mux.Write(l)
		for at := range 8 * len(b) {
			// a pattern's first bit is turned: those without are met further on
			for pattern := 1 << 15; pattern < 1<<16; pattern++ {
				if c, ok := turned(b, at, uint16(pattern)); ok {
					wantNoParts(t, c, api.ErrSum)
				}
			}
		}
	}
}

func TestTurnedBitsOfLongBlocksAreTold(t *testing.T) {
	r := rand.New(rand.NewSource(6))
	for _, l := range [][]mux.Part{{part(31, "a"), part(1, "bc")}, many(mostParts), {long(1, mostData), long(2, mostData-4)}} {
		b, e := mux.Write(l)
		if e != api.OK {
			t.Fatalf("Write: %v", e)
		}
		for range 2000 {
			at, pattern := r.Intn(8*len(b)-15), uint16(1<<15|r.Intn(1<<15))
			c, _ := turned(b, at, pattern)
			wantNoParts(t, c, api.ErrSum)
		}
	}
}

// rules 4 and 5 of the document

func TestWhatIsHandedInStays(t *testing.T) {
	under := []byte("abcdefgh")
	parts := []mux.Part{{ID: 1, Data: under[:2]}, {ID: 2, Data: under[2:3]}, {ID: 99}}
	b, e := mux.Write(parts[:2])
	if e != api.OK || len(b) != 9 {
		t.Fatalf("Write: %x %v", b, e)
	}
	mux.Size(parts[:2])
	mux.Same(parts[:2], parts[:1])
	clear(b)
	if string(under) != "abcdefgh" || len(parts[0].Data) != 2 || parts[2].ID != 99 {
		t.Errorf("what was handed in is changed: %q %v", under, parts)
	}
	behind := append(check.Close([]byte("\x08\x01a")), "xyz"...)
	kept := bytes.Clone(behind)
	l, e := mux.Read(behind[:5])
	if e != api.OK || len(l) != 1 {
		t.Fatalf("Read: %v %v", l, e)
	}
	l[0].Data[0] = 'z'
	_ = append(l[0].Data, "more"...)
	if !bytes.Equal(behind, kept) {
		t.Errorf("what was handed in is changed: %x", behind)
	}
}

func TestWhatIsHandedOutIsNewMemory(t *testing.T) {
	b, _ := mux.Write([]mux.Part{part(1, "ab"), part(2, "c"), part(3, "def")})
	if cap(b) != len(b) {
		t.Errorf("there is room for %d behind the block", cap(b)-len(b))
	}
	l, e := mux.Read(b)
	if e != api.OK || len(l) != 3 || cap(l) != 3 {
		t.Fatalf("Read: %v %v, room for %d", l, e, cap(l))
	}
	for at := range l {
		if cap(l[at].Data) != len(l[at].Data) {
			t.Errorf("there is room for %d behind the part %d", cap(l[at].Data)-len(l[at].Data), at)
		}
		_ = append(l[at].Data, "zzzzzz"...)
	}
	if !same(l, []mux.Part{part(1, "ab"), part(2, "c"), part(3, "def")}) {
		t.Errorf("an append to one part has changed another one: %v", l)
	}
	clear(b)
	clear(l[1].Data)
	if !same(l, []mux.Part{part(1, "ab"), part(2, "\x00"), part(3, "def")}) {
		t.Errorf("parts share what they have: %v", l)
	}
}
