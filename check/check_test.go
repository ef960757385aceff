package check_test

import (
	"bytes"
	"math/rand"
	"testing"

	"bowline/api"
	"bowline/check"
)

// some is so many bytes, the same ones for each seed.
func some(seed int64, many int) []byte {
	b := make([]byte, many)
	rand.New(rand.NewSource(seed)).Read(b)
	return b
}

// divided is the sum of bytes behind what has the sum begun, found in another way than the package does: as what is left when all bits, sixteen noughts behind them, are divided by x^16 + x^12 + x^5 + 1.
func divided(begun uint16, b []byte) uint16 {
	l := make([]bool, 8*len(b)+16)
	for i := range 8 * len(b) {
		l[i] = b[i/8]>>(7-i%8)&1 == 1
	}
	for i := range 16 {
		l[i] = l[i] != (begun>>(15-i)&1 == 1)
	}
	for i := range 8 * len(b) {
		if l[i] {
			for _, at := range []int{0, 4, 11, 16} {
				l[i+at] = !l[i+at]
			}
		}
	}
	var sum uint16
	for _, one := range l[8*len(b):] {
		sum *= 2
		if one {
			sum++
		}
	}
	return sum
}

func wantOf(t *testing.T, b []byte, want uint16) {
	t.Helper()
	if sum := check.Of(b); sum != want {
		t.Fatalf("Of(%x): %04X, want %04X", b, sum, want)
	}
}

func wantMore(t *testing.T, sum uint16, b []byte, want uint16) {
	t.Helper()
	if got := check.More(sum, b); got != want {
		t.Fatalf("More(%04X, %x): %04X, want %04X", sum, b, got, want)
	}
}

func wantOpen(t *testing.T, b, want []byte, e api.Errno) {
	t.Helper()
	if got, f := check.Open(b); !bytes.Equal(got, want) || f != e {
		t.Fatalf("Open(%x): %x %v, want %x %v", b, got, f, want, e)
	}
}

// turned is bytes whose bits are turned where a pattern's sixteen bits, laid from a bit on, are 1; false, if one of these is behind the end.
func turned(b []byte, at int, pattern uint16) ([]byte, bool) {
	c := bytes.Clone(b)
	for i := range 16 {
		if pattern>>(15-i)&1 == 0 {
			continue
		}
		if at+i >= 8*len(c) {
			return nil, false
		}
		c[(at+i)/8] ^= 0x80 >> ((at + i) % 8)
	}
	return c, true
}

// P7.1

func TestExample(t *testing.T) {
	wantOf(t, []byte("123456789"), 0x29B1)
}

func TestOf(t *testing.T) {
	wantOf(t, nil, 0xFFFF)
	wantOf(t, []byte{}, 0xFFFF)
	wantOf(t, []byte{0}, 0xE1F0)
	wantOf(t, []byte{0xFF}, 0xFF00)
	wantOf(t, []byte("A"), 0xB915)
	wantOf(t, []byte{0xFF, 0xFF}, 0)
	for v := range 1 << 16 {
		b := []byte{byte(v >> 8), byte(v)}
		wantOf(t, b[1:], divided(0xFFFF, b[1:]))
		wantOf(t, b, divided(0xFFFF, b))
	}
	for seed := range int64(100) {
		b := some(seed, int(seed*seed)%700)
		wantOf(t, b, divided(0xFFFF, b))
	}
}

func TestOfVeryMany(t *testing.T) {
	b := some(1, api.MaxText)
	wantOf(t, b, divided(0xFFFF, b))
}

func TestMore(t *testing.T) {
	for v := range 1 << 16 {
		sum := uint16(v)
		wantMore(t, sum, nil, sum)
		wantMore(t, sum, []byte{}, sum)
		for _, x := range []byte{0, 1, 0x80, byte(v >> 8), byte(v), 0xFF} {
			wantMore(t, sum, []byte{x}, divided(sum, []byte{x}))
		}
	}
	for seed := range int64(200) {
		b, sum := some(seed, int(seed)), uint16(seed*32803)
		wantMore(t, sum, b, divided(sum, b))
		wantMore(t, 0xFFFF, b, check.Of(b))
	}
}

func TestClose(t *testing.T) {
	for _, c := range []struct{ b, want string }{
		{"", "\xFF\xFF"},
		{"A", "A\xB9\x15"},
		{"123456789", "123456789\x29\xB1"},
		{"\xFF\xFF", "\xFF\xFF\x00\x00"},
	} {
		if b := check.Close([]byte(c.b)); string(b) != c.want {
			t.Errorf("Close(%q): %x, want %x", c.b, b, c.want)
		}
	}
	if b := check.Close(nil); string(b) != "\xFF\xFF" {
		t.Errorf("Close of nil: %x", b)
	}
	for many := range 300 {
		b := some(int64(many), many)
		c, sum := check.Close(b), divided(0xFFFF, b)
		if len(c) != many+2 || !bytes.Equal(c[:many], b) || c[many] != byte(sum>>8) || c[many+1] != byte(sum) {
			t.Fatalf("Close(%x): %x, want the sum %04X behind", b, c, sum)
		}
	}
}

func TestOpen(t *testing.T) {
	wantOpen(t, []byte("\xFF\xFF"), nil, api.OK)
	wantOpen(t, []byte("A\xB9\x15"), []byte("A"), api.OK)
	wantOpen(t, []byte("123456789\x29\xB1"), []byte("123456789"), api.OK)
	for many := range 300 {
		b := some(int64(many), many)
		wantOpen(t, check.Close(b), b, api.OK)
	}
}

func TestOpenShort(t *testing.T) {
	wantOpen(t, nil, nil, api.ErrShort)
	wantOpen(t, []byte{}, nil, api.ErrShort)
	for v := range 256 {
		wantOpen(t, []byte{byte(v)}, nil, api.ErrShort)
	}
}

func TestOpenWrongSum(t *testing.T) {
	for _, text := range []string{"", "A", "123456789"} {
		b := check.Close([]byte(text))
		n := len(text)
		right := int(check.Of([]byte(text)))
		for sum := range 1 << 16 {
			b[n], b[n+1] = byte(sum>>8), byte(sum)
			if sum == right {
				wantOpen(t, b, []byte(text), api.OK)
			} else {
				wantOpen(t, b, nil, api.ErrSum)
			}
		}
	}
	// the smaller byte first is another sum
	wantOpen(t, []byte("A\x15\xB9"), nil, api.ErrSum)
}

func TestOpenOfWhatIsCut(t *testing.T) {
	b := check.Close([]byte("123456789"))
	for n := range b {
		e := api.ErrSum
		if n < 2 {
			e = api.ErrShort
		}
		wantOpen(t, b[:n], nil, e)
	}
	wantOpen(t, append(bytes.Clone(b), 1), nil, api.ErrSum)
}

// P7.2

func TestCutAnywhere(t *testing.T) {
	for seed := range int64(40) {
		b := some(seed, int(seed)+20)
		for at := range len(b) + 1 {
			wantMore(t, check.Of(b[:at]), b[at:], check.Of(b))
			for behind := at; behind <= len(b); behind += 7 {
				sum := check.More(check.Of(b[:at]), b[at:behind])
				wantMore(t, sum, b[behind:], check.Of(b))
			}
			begun := uint16(seed * 4099)
			wantMore(t, check.More(begun, b[:at]), b[at:], check.More(begun, b))
		}
	}
}

// P7.3

func TestBurstsAreTold(t *testing.T) {
	for _, text := range []string{"", "k", "\x00\xFF\x5A"} {
		b := check.Close([]byte(text))
		for at := range 8 * len(b) {
			// a pattern's first bit is turned: those without are met further on
			for pattern := 1 << 15; pattern < 1<<16; pattern++ {
				if c, ok := turned(b, at, uint16(pattern)); ok {
					wantOpen(t, c, nil, api.ErrSum)
				}
			}
		}
	}
}

func TestBurstsInLongBytesAreTold(t *testing.T) {
	b := check.Close(some(5, api.MaxGrant))
	r := rand.New(rand.NewSource(6))
	for range 2000 {
		at, pattern := r.Intn(8*len(b)-15), uint16(1<<15|r.Intn(1<<15))
		c, _ := turned(b, at, pattern)
		if got, e := check.Open(c); got != nil || e != api.ErrSum {
			t.Fatalf("turned at %d by %04X: %d bytes, %v", at, pattern, len(got), e)
		}
	}
}

// P7.4

func TestClosedHasTheSumNought(t *testing.T) {
	for many := range 300 {
		wantOf(t, check.Close(some(int64(many), many)), 0)
	}
	for v := range 1 << 16 {
		b := []byte{byte(v >> 8), byte(v)}
		wantOf(t, check.Close(b), 0)
		wantMore(t, uint16(v), b, 0)
	}
}

// rules 4 and 5 of the document

func TestWhatIsHandedInStays(t *testing.T) {
	under := []byte("123456789\x29\xB1abcdef")
	check.Of(under[:9])
	check.More(7, under[:9])
	check.Close(under[:3])
	check.Close(under[:0])
	check.Open(under[:11])
	if string(under) != "123456789\x29\xB1abcdef" {
		t.Errorf("what was handed in is changed: %q", under)
	}
}

func TestWhatIsHandedOutIsNewMemory(t *testing.T) {
	b := check.Close([]byte("abc"))
	copied := bytes.Clone(b)
	opened, e := check.Open(b)
	if e != api.OK {
		t.Fatalf("Open: %v", e)
	}
	_ = append(opened, 0, 0)
	for i := range opened {
		opened[i] = 0
	}
	if !bytes.Equal(b, copied) {
		t.Errorf("what was handed in is changed: %x", b)
	}
	text := []byte("abc")
	closed := check.Close(text)
	for i := range closed {
		closed[i] = 0
	}
	if string(text) != "abc" {
		t.Errorf("what was handed in is changed: %q", text)
	}
	for _, out := range [][]byte{check.Close([]byte("abcde")), check.Close(nil), opened} {
		if cap(out) != len(out) {
			t.Errorf("there is room for %d behind", cap(out)-len(out))
		}
	}
}
