package amd_test

import (
	"bytes"
	"encoding/hex"
	"math"
	"math/rand"
	"strconv"
	"strings"
	"testing"

	"bowline/amd"
	"bowline/api"
)

var (
	widths = []int{10, 16}
	both   = []bool{false, true}
	// wrong is widths that may not be.
	wrong = []int{0, 1, 5, 8, 9, 11, 12, 15, 17, 64, -1, -10, -16, math.MinInt, math.MaxInt, 10 + 1<<32}
)

// head is how many bytes a head has.
func head(part bool, width int) int {
	if part {
		return 4 + width/16
	}
	return 2 + width/16
}

// places is how many offsets there are.
func places(width int) int { return 1 << (15 + width/16) }

// lengthBits is how many bits a length has, with the one ahead of it.
func lengthBits(width int) int { return 12 + 4*(width/16) }

// digits is a number's bits as a text.
func digits(v, n int) string {
	text := strconv.FormatInt(int64(v), 2)
	return strings.Repeat("0", n-len(text)) + text
}

func digit(is bool) string {
	if is {
		return "1"
	}
	return "0"
}

// packed is bits written as a text, as bytes.
func packed(text string) []byte {
	for len(text)%8 != 0 {
		text += "0"
	}
	b := make([]byte, len(text)/8)
	for i := range b {
		v, _ := strconv.ParseUint(text[8*i:8*i+8], 2, 8)
		b[i] = byte(v)
	}
	return b
}

// text is bytes' bits.
func text(b []byte) string {
	var all strings.Builder
	for _, x := range b {
		all.WriteString(digits(int(x), 8))
	}
	return all.String()
}

// written is the bytes of a packet that may be, found in another way than the package does.
func written(p amd.Packet, width int) []byte {
	last := len(p.Fields) - 1
	all := "1" + digit(p.Part) + digit(p.Poll) + digits(p.FI, 2) + digit(last > 0)
	switch {
	case width == 10 && !p.Part:
		all += digits(p.SN, 10)
	case width == 10:
		all += digits(p.SN, 10) + digit(p.Last) + digits(p.Offset, 15)
	case !p.Part:
		all += "00" + digits(p.SN, 16)
	default:
		all += digit(p.Last) + "0" + digits(p.SN, 16) + digits(p.Offset, 16)
	}
	for i, f := range p.Fields[:last] {
		all += digit(i < last-1) + digits(len(f), lengthBits(width)-1)
	}
	return append(packed(all), bytes.Join(p.Fields, nil)...)
}

// read is what Read asks for, found in another way than the package does.
func read(b []byte, width int) (amd.Packet, api.Errno) {
	none := amd.Packet{}
	all := text(b[:min(len(b), 64)]) // no lengths reach further
	switch {
	case len(b) > api.MaxPDU:
		return none, api.ErrLong
	case len(b) == 0:
		return none, api.ErrShort
	case all[0] == '0':
		return none, api.ErrNone
	}
	p := amd.Packet{Part: all[1] == '1', Poll: all[2] == '1'}
	n := head(p.Part, width)
	if len(b) < n {
		return none, api.ErrShort
	}
	number := func(from, many int) int {
		v, _ := strconv.ParseInt(all[from:from+many], 2, 64)
		return int(v)
	}
	p.FI = number(3, 2)
	if width == 10 {
		p.SN = number(6, 10)
	} else {
		p.SN = number(8, 16)
	}
	switch {
	case width == 10 && p.Part:
		p.Last, p.Offset = all[16] == '1', number(17, 15)
	case width == 16 && p.Part:
		p.Last, p.Offset = all[6] == '1', number(24, 16)
	case width == 16 && all[6] == '1':
		return none, api.ErrForm
	}
	if width == 16 && all[7] == '1' {
		return none, api.ErrForm
	}
	l, at, e := lengths(all, 8*n, width)
	if e != api.OK {
		return none, e
	}
	left := b[at/8:]
	for _, length := range l {
		if length > len(left) {
			return none, api.ErrShort
		}
		p.Fields = append(p.Fields, left[:length])
		left = left[length:]
	}
	if len(left) == 0 {
		return none, api.ErrShort
	}
	p.Fields = append(p.Fields, left)
	return p, api.OK
}

// lengths is the lengths from a bit on, and where they end.
func lengths(all string, at, width int) ([]int, int, api.Errno) {
	var l []int
	for more := all[5] == '1'; more; {
		if len(all)-at < lengthBits(width) {
			return nil, 0, api.ErrShort
		}
		v, _ := strconv.ParseInt(all[at+1:at+lengthBits(width)], 2, 64)
		if v == 0 {
			return nil, 0, api.ErrForm
		}
		l = append(l, int(v))
		more = all[at] == '1'
		at += lengthBits(width)
		if more && len(l) == api.MaxFields-1 {
			return nil, 0, api.ErrLong
		}
	}
	for ; at%8 != 0; at++ {
		if all[at] == '1' {
			return nil, 0, api.ErrForm
		}
	}
	for _, length := range l {
		if length > api.MaxLen {
			return nil, 0, api.ErrForm
		}
	}
	return l, at, api.OK
}

// field is so many bytes, the same ones for each seed.
func field(seed, many int) []byte {
	b := make([]byte, many)
	for i := range b {
		seed = (seed*1103515245 + 12345) % (1 << 31)
		b[i] = byte(seed >> 16)
	}
	return b
}

// of is a packet with fields of some lengths.
func of(fi, sn int, lengths ...int) amd.Packet {
	p := amd.Packet{FI: fi, SN: sn}
	for i, n := range lengths {
		p.Fields = append(p.Fields, field(fi+7*sn+100*i, n))
	}
	return p
}

// part is a part of a packet.
func part(p amd.Packet, offset int, last bool) amd.Packet {
	p.Part, p.Offset, p.Last = true, offset, last
	return p
}

// polling is a packet with Poll.
func polling(p amd.Packet) amd.Packet {
	p.Poll = true
	return p
}

// alike is so many times the same number.
func alike(n, many int) []int {
	l := make([]int, many)
	for i := range l {
		l[i] = n
	}
	return l
}

// full is lengths of so many fields, which have so many bytes together with their lengths' bytes.
func full(many, size, width int) []int {
	l := alike(1, many)
	l[many-1] = size - (many - 1)
	if many > 1 {
		l[many-1] -= ((many-1)*lengthBits(width) + 7) / 8
	}
	return l
}

// equal holds packets against each other in another way than Same does.
func equal(a, b amd.Packet) bool {
	if a.Poll != b.Poll || a.FI != b.FI || a.SN != b.SN || len(a.Fields) != len(b.Fields) {
		return false
	}
	if a.Part != b.Part || a.Last != b.Last || a.Offset != b.Offset {
		return false
	}
	for i, f := range a.Fields {
		if string(f) != string(b.Fields[i]) {
			return false
		}
	}
	return true
}

func wantWrite(t *testing.T, p amd.Packet, width int, want []byte, e api.Errno) {
	t.Helper()
	if b, f := amd.Write(p, width); !bytes.Equal(b, want) || f != e {
		t.Fatalf("Write(%v, %d): %x %v, want %x %v", p, width, b, f, want, e)
	}
}

func wantRead(t *testing.T, b []byte, width int, want amd.Packet, e api.Errno) {
	t.Helper()
	p, f := amd.Read(b, width)
	if !equal(p, want) || f != e {
		t.Fatalf("Read(%x, %d): %v %v, want %v %v", b, width, p, f, want, e)
	}
	if e != api.OK && p.Fields != nil {
		t.Fatalf("Read(%x, %d): fields with an error: %v", b, width, p)
	}
}

// wantError wants of Read an error, and nothing.
func wantError(t *testing.T, b []byte, width int, e api.Errno) {
	t.Helper()
	wantRead(t, b, width, amd.Packet{}, e)
}

// wantRight wants that a packet may be, goes there and back, and has the model's bytes.
func wantRight(t *testing.T, p amd.Packet, width int) {
	t.Helper()
	b := written(p, width)
	if !amd.Right(p, width) || amd.Size(p, width) != len(b) {
		t.Fatalf("%v of %d: %v, Size %d, want true and %d", p, width, amd.Right(p, width), amd.Size(p, width), len(b))
	}
	wantWrite(t, p, width, b, api.OK)
	wantRead(t, b, width, p, api.OK)
}

// wantWrong wants that a packet may not be.
func wantWrong(t *testing.T, p amd.Packet, width int) {
	t.Helper()
	if amd.Right(p, width) || amd.Size(p, width) != 0 {
		t.Fatalf("%v of %d: %v, Size %d, want false and 0", p, width, amd.Right(p, width), amd.Size(p, width))
	}
	wantWrite(t, p, width, nil, api.ErrForm)
}

func unhex(t *testing.T, s string) []byte {
	t.Helper()
	b, e := hex.DecodeString(s)
	if e != nil {
		t.Fatal(e)
	}
	return b
}

// P10.1

func TestExample(t *testing.T) {
	p := amd.Packet{SN: 5, Fields: [][]byte{{0x41}}}
	wantWrite(t, p, 10, []byte{0x80, 0x05, 0x41}, api.OK)
	wantRead(t, []byte{0x80, 0x05, 0x41}, 10, p, api.OK)
}

func TestHead(t *testing.T) {
	for _, c := range []struct {
		part  bool
		width int
		want  int
	}{{false, 10, 2}, {true, 10, 4}, {false, 16, 3}, {true, 16, 5}} {
		if n := amd.Head(c.part, c.width); n != c.want {
			t.Errorf("Head(%v, %d): %d, want %d", c.part, c.width, n, c.want)
		}
	}
	for _, width := range wrong {
		if amd.Head(false, width) != 0 || amd.Head(true, width) != 0 {
			t.Errorf("a head of %d has bytes", width)
		}
	}
}

func TestBytes(t *testing.T) {
	one := [][]byte{{0x41}}
	two := [][]byte{{0x41}, {0x42}}
	for _, c := range []struct {
		p     amd.Packet
		width int
		want  string
	}{
		{amd.Packet{Fields: one}, 10, "800041"},
		{amd.Packet{Poll: true, Fields: one}, 10, "a00041"},
		{amd.Packet{FI: 1, Fields: one}, 10, "880041"},
		{amd.Packet{FI: 2, Fields: one}, 10, "900041"},
		{amd.Packet{SN: 1023, Fields: one}, 10, "83ff41"},
		{amd.Packet{SN: 0x155, Fields: two}, 10, "855500104142"},
		{amd.Packet{Part: true, Fields: one}, 10, "c000000041"},
		{amd.Packet{Part: true, Last: true, Fields: one}, 10, "c000800041"},
		{amd.Packet{Part: true, Offset: 32767, Fields: one}, 10, "c0007fff41"},
		{amd.Packet{Part: true, Offset: 1, SN: 5, Fields: two}, 10, "c405000100104142"},
		{amd.Packet{Fields: one}, 16, "80000041"},
		{amd.Packet{Poll: true, FI: 3, SN: 65535, Fields: one}, 16, "b8ffff41"},
		{amd.Packet{SN: 0x1234, Fields: two}, 16, "84123400014142"},
		{amd.Packet{Part: true, Fields: one}, 16, "c00000000041"},
		{amd.Packet{Part: true, Last: true, SN: 1, Fields: one}, 16, "c20001000041"},
		{amd.Packet{Part: true, Offset: 65535, Fields: one}, 16, "c00000ffff41"},
		{amd.Packet{Part: true, Offset: 0x1234, SN: 0x5678, Fields: two}, 16, "c45678123400014142"},
	} {
		b := unhex(t, c.want)
		wantWrite(t, c.p, c.width, b, api.OK)
		wantRead(t, b, c.width, c.p, api.OK)
		if amd.Size(c.p, c.width) != len(b) {
			t.Errorf("Size of %v: %d, want %d", c.p, amd.Size(c.p, c.width), len(b))
		}
	}
}

func TestAllHeads(t *testing.T) {
	for _, width := range widths {
		for sn := range 1 << width {
			p := of(sn/3%4, sn, 1)
			p.Poll = sn%2 == 0
			wantRight(t, p, width)
			wantRight(t, part(p, sn, sn%5 == 0), width)
		}
		for fi := range 4 {
			for _, last := range both {
				p := of(fi, fi, 3, 2)
				wantRight(t, p, width)
				wantRight(t, polling(p), width)
				wantRight(t, part(p, 300, last), width)
				wantRight(t, polling(part(p, 300, last)), width)
			}
		}
	}
}

func TestOffsets(t *testing.T) {
	for _, width := range widths {
		p := of(0, 1, 1)
		for offset := range places(width) {
			wantRight(t, part(p, offset, offset%3 == 0), width)
		}
		for _, last := range both {
			// a part's bytes may end behind the last place
			wantRight(t, part(of(0, 1, 100), places(width)-1, last), width)
			for _, offset := range []int{-1, places(width), places(width) + 1, 1 << 20, 1 << 32, math.MinInt, math.MaxInt} {
				wantWrong(t, part(p, offset, last), width)
			}
		}
	}
	wantWrong(t, part(of(0, 1, 1), 32768, false), 10)
	wantRight(t, part(of(0, 1, 1), 32768, false), 16)
}

func TestWhatIsNoPart(t *testing.T) {
	for _, width := range widths {
		for _, offset := range []int{1, -1, 5, places(width) - 1, places(width), math.MinInt, math.MaxInt} {
			p := of(0, 1, 1)
			p.Offset = offset
			wantWrong(t, p, width)
			p.Last = true
			wantWrong(t, p, width)
		}
		p := of(0, 1, 1)
		p.Last = true
		wantWrong(t, p, width)
	}
}

func TestWrongHeads(t *testing.T) {
	for _, width := range widths {
		for _, fi := range []int{-1, -2, 4, 5, 8, 1 << 32, math.MinInt, math.MaxInt} {
			p := of(0, 0, 1)
			p.FI = fi
			wantWrong(t, p, width)
			wantWrong(t, part(p, 0, false), width)
		}
		for _, sn := range []int{-1, -32, 1 << width, 1<<width + 1, 1 << 20, 1 << 32, math.MinInt, math.MaxInt} {
			p := of(0, 0, 1)
			p.SN = sn
			wantWrong(t, p, width)
			wantWrong(t, part(p, 0, false), width)
		}
	}
	wantWrong(t, of(0, 1024, 1), 10)
	wantRight(t, of(0, 1024, 1), 16)
}

func TestManyFields(t *testing.T) {
	for _, width := range widths {
		for many := 1; many <= api.MaxFields; many++ {
			for _, n := range []int{1, 100} {
				p := of(many%4, many, alike(n, many)...)
				wantRight(t, p, width)
				wantRight(t, part(p, many, true), width)
			}
		}
		for _, many := range []int{api.MaxFields + 1, api.MaxFields + 2, 5000} {
			wantWrong(t, of(0, 0, alike(1, many)...), width)
			wantWrong(t, part(of(0, 0, alike(1, many)...), 0, false), width)
		}
		for _, p := range []amd.Packet{{}, {Fields: [][]byte{}}, {Part: true}} {
			wantWrong(t, p, width)
		}
	}
}

func TestEmptyField(t *testing.T) {
	for _, width := range widths {
		for many := 1; many <= api.MaxFields; many++ {
			for at := range many {
				p := of(0, 1, alike(2, many)...)
				p.Fields[at] = nil
				wantWrong(t, p, width)
				p.Fields[at] = []byte{}
				wantWrong(t, p, width)
				wantWrong(t, part(p, 7, true), width)
			}
		}
	}
}

func TestLongField(t *testing.T) {
	for _, width := range widths {
		wantRight(t, of(0, 1, api.MaxLen, 1), width)
		wantWrong(t, of(0, 1, api.MaxLen+1, 1), width)
		wantRight(t, of(0, 1, 1, api.MaxLen, 1), width)
		wantWrong(t, of(0, 1, 1, api.MaxLen+1, 1), width)
		// the last one has no length
		wantRight(t, of(0, 1, api.MaxLen+1), width)
		wantRight(t, of(0, 1, 1, api.MaxLen+1), width)
	}
}

func TestLongPacket(t *testing.T) {
	for _, width := range widths {
		for _, is := range both {
			for many := 1; many <= api.MaxFields; many++ {
				sized := func(size int) amd.Packet {
					p := of(0, 1, full(many, size-head(is, width), width)...)
					p.Part = is
					return p
				}
				wantRight(t, sized(api.MaxPDU), width)
				if n := amd.Size(sized(api.MaxPDU), width); n != api.MaxPDU {
					t.Errorf("%d fields: Size %d", many, n)
				}
				wantRight(t, sized(api.MaxPDU-1), width)
				wantWrong(t, sized(api.MaxPDU+1), width)
				wantWrong(t, sized(api.MaxPDU+2), width)
				wantWrong(t, sized(100000), width)
			}
		}
		wantWrong(t, of(0, 1, alike(api.MaxLen, api.MaxFields)...), width)
	}
	// a part's head has two bytes more
	p := of(0, 1, api.MaxPDU-3)
	wantRight(t, p, 10)
	wantRight(t, p, 16)
	wantWrong(t, part(p, 0, true), 10)
	wantWrong(t, part(p, 0, true), 16)
}

func TestWrongWidth(t *testing.T) {
	for _, width := range wrong {
		for _, p := range []amd.Packet{{}, of(0, 1, 1), part(of(0, 1, 1), 5, true), of(4, -1, 1), of(0, 1, api.MaxPDU+1)} {
			if amd.Right(p, width) || amd.Size(p, width) != 0 {
				t.Errorf("of %d: %v, Size %d", width, amd.Right(p, width), amd.Size(p, width))
			}
			wantWrite(t, p, width, nil, api.ErrKind)
		}
		for _, b := range [][]byte{nil, {}, {0}, {0x80, 0x05, 0x41}, {0xFF, 0xFF, 0xFF}, make([]byte, api.MaxPDU+1)} {
			wantError(t, b, width, api.ErrKind)
		}
	}
}

func TestData(t *testing.T) {
	for _, c := range []struct {
		fields [][]byte
		want   string
	}{
		{nil, ""},
		{[][]byte{}, ""},
		{[][]byte{nil, {}}, ""},
		{[][]byte{[]byte("a")}, "a"},
		{[][]byte{[]byte("ab"), nil, []byte("c"), []byte("def")}, "abcdef"},
	} {
		p := amd.Packet{FI: 9, SN: -1, Fields: c.fields}
		if b := amd.Data(p); string(b) != c.want {
			t.Errorf("Data of %v: %q, want %q", c.fields, b, c.want)
		}
	}
	// of those that may not be, too
	p := of(0, 1, alike(api.MaxPDU, api.MaxFields+6)...)
	if !bytes.Equal(amd.Data(p), bytes.Join(p.Fields, nil)) {
		t.Error("Data of a packet that is too long")
	}
}

func TestSame(t *testing.T) {
	a := polling(part(of(1, 2, 3, 4), 5, true))
	if !amd.Same(a, polling(part(of(1, 2, 3, 4), 5, true))) || !amd.Same(a, a) {
		t.Error("equal ones are not")
	}
	for name, change := range map[string]func(p *amd.Packet){
		"Poll":       func(p *amd.Packet) { p.Poll = false },
		"FI":         func(p *amd.Packet) { p.FI = 2 },
		"SN":         func(p *amd.Packet) { p.SN = 3 },
		"Part":       func(p *amd.Packet) { p.Part = false },
		"Last":       func(p *amd.Packet) { p.Last = false },
		"Offset":     func(p *amd.Packet) { p.Offset = 6 },
		"fewer":      func(p *amd.Packet) { p.Fields = p.Fields[:1] },
		"more":       func(p *amd.Packet) { p.Fields = append(p.Fields, []byte{1}) },
		"none":       func(p *amd.Packet) { p.Fields = nil },
		"one's end":  func(p *amd.Packet) { p.Fields[0] = p.Fields[0][:2] },
		"one's byte": func(p *amd.Packet) { p.Fields[1][3]++ },
		"turned":     func(p *amd.Packet) { p.Fields[0], p.Fields[1] = p.Fields[1], p.Fields[0] },
		"whole":      func(p *amd.Packet) { p.Fields = [][]byte{bytes.Join(p.Fields, nil)} },
		"cut elsewhere": func(p *amd.Packet) {
			p.Fields[0] = append(p.Fields[0], p.Fields[1][0])
			p.Fields[1] = p.Fields[1][1:]
		},
	} {
		b := polling(part(of(1, 2, 3, 4), 5, true))
		change(&b)
		if amd.Same(a, b) || amd.Same(b, a) {
			t.Errorf("%s: unlike ones are equal", name)
		}
	}
}

func TestSameOfWhatMayNotBe(t *testing.T) {
	if !amd.Same(amd.Packet{}, amd.Packet{Fields: [][]byte{}}) {
		t.Error("no fields are unlike no fields")
	}
	if !amd.Same(amd.Packet{Fields: [][]byte{nil}}, amd.Packet{Fields: [][]byte{{}}}) {
		t.Error("an empty field is unlike an empty one")
	}
	if amd.Same(amd.Packet{}, amd.Packet{Fields: [][]byte{nil}}) {
		t.Error("no field is an empty one")
	}
	if !amd.Same(amd.Packet{FI: -1, Offset: math.MinInt}, amd.Packet{FI: -1, Offset: math.MinInt}) {
		t.Error("equal ones are not")
	}
	if amd.Same(amd.Packet{Last: true}, amd.Packet{Poll: true}) || amd.Same(amd.Packet{FI: 1}, amd.Packet{Offset: 1}) {
		t.Error("unlike ones are equal")
	}
}

// P10.2

func TestReadLong(t *testing.T) {
	for _, width := range widths {
		for _, many := range []int{api.MaxPDU + 1, api.MaxPDU + 2, 9000} {
			for _, x := range []byte{0, 0x80, 0xFF} {
				wantError(t, bytes.Repeat([]byte{x}, many), width, api.ErrLong)
			}
		}
		b := make([]byte, api.MaxPDU)
		b[0] = 0x80
		wantRead(t, b, width, amd.Packet{Fields: [][]byte{b[head(false, width):]}}, api.OK)
		wantError(t, make([]byte, api.MaxPDU), width, api.ErrNone)
	}
}

func TestReadShortHead(t *testing.T) {
	for _, width := range widths {
		wantError(t, nil, width, api.ErrShort)
		wantError(t, []byte{}, width, api.ErrShort)
		for v := range 256 {
			n := head(v&0x40 != 0, width)
			for many := 1; many <= n; many++ {
				b := append([]byte{byte(v)}, bytes.Repeat([]byte{0xFF}, many-1)...)
				switch {
				case v < 0x80:
					wantError(t, b, width, api.ErrNone)
				case many < n:
					// noughts that are 1 are not looked at, if the head is missing
					wantError(t, b, width, api.ErrShort)
				}
			}
		}
	}
}

func TestReadStatus(t *testing.T) {
	for _, width := range widths {
		for v := range 0x80 {
			for _, behind := range []string{"", "05", "0541", "05410000ffff"} {
				wantError(t, append([]byte{byte(v)}, unhex(t, behind)...), width, api.ErrNone)
			}
		}
	}
}

func TestReadNoughts(t *testing.T) {
	for _, c := range []struct {
		b string
		e api.Errno
	}{
		{"80000041", api.OK},
		{"81000041", api.ErrForm},
		{"82000041", api.ErrForm},
		{"83000041", api.ErrForm},
		{"c00000000041", api.OK},
		{"c10000000041", api.ErrForm},
		{"c20000000041", api.OK},
		{"c30000000041", api.ErrForm},
		// ahead of a field that is missing, and of lengths that may not be
		{"810000", api.ErrForm},
		{"850000", api.ErrForm},
		{"8500008000", api.ErrForm},
		{"800000", api.ErrShort},
		{"c000000000", api.ErrShort},
		{"c100000000", api.ErrForm},
	} {
		b := unhex(t, c.b)
		p, e := read(b, 16)
		if e != c.e {
			t.Fatalf("%s: the model says %v, want %v", c.b, e, c.e)
		}
		wantRead(t, b, 16, p, c.e)
	}
	// of 10 bits they are the number's
	wantRead(t, unhex(t, "830041"), 10, amd.Packet{SN: 768, Fields: [][]byte{{0x41}}}, api.OK)
}

func TestReadLengthsErrors(t *testing.T) {
	for _, c := range []struct {
		b     string
		width int
		e     api.Errno
	}{
		{"8405", 10, api.ErrShort},
		{"840500", 10, api.ErrShort},
		{"84050010", 10, api.ErrShort},
		{"8405001041", 10, api.ErrShort},
		{"840500104142", 10, api.OK},
		{"84050000", 10, api.ErrForm},
		{"840500004142", 10, api.ErrForm},
		{"840500114142", 10, api.ErrForm},
		{"84058010", 10, api.ErrShort},
		{"8405801000", 10, api.ErrForm},
		{"840580100141424344", 10, api.OK},
		{"8405801001414243", 10, api.OK},
		{"84058010014142", 10, api.ErrShort},
		{"84057ff041", 10, api.ErrShort},
		{"c405000000104142", 10, api.OK},
		{"c40500000010", 10, api.ErrShort},
		{"840005", 16, api.ErrShort},
		{"84000500", 16, api.ErrShort},
		{"8400050001", 16, api.ErrShort},
		{"840005000141", 16, api.ErrShort},
		{"84000500014142", 16, api.OK},
		{"8400050000", 16, api.ErrForm},
		{"84000507ff4142", 16, api.ErrShort},
		{"84000508004142", 16, api.ErrForm},
		{"8400050800", 16, api.ErrForm},
		{"8400057fff4142", 16, api.ErrForm},
		// that one is too long is met behind all lengths, and ahead of all fields
		{"84000588000001414243", 16, api.ErrForm},
		{"840005880000004142", 16, api.ErrForm},
		{"8400058800", 16, api.ErrShort},
		{"84000587ff08004142", 16, api.ErrForm},
		{"84000587ff07ff4142", 16, api.ErrShort},
	} {
		b := unhex(t, c.b)
		p, e := read(b, c.width)
		if e != c.e {
			t.Fatalf("%s: the model says %v, want %v", c.b, e, c.e)
		}
		wantRead(t, b, c.width, p, c.e)
	}
}

func TestReadLongLength(t *testing.T) {
	// all its bytes are there, and yet it is too long
	for n := api.MaxLen - 1; n < api.MaxLen+3; n++ {
		b := append(packed("10000100"+digits(5, 16)+digits(n, 16)), make([]byte, n+1)...)
		want, e := read(b, 16)
		if is := n > api.MaxLen; is != (e == api.ErrForm) {
			t.Fatalf("%d: the model says %v", n, e)
		}
		wantRead(t, b, 16, want, e)
	}
}

func TestReadTooManyLengths(t *testing.T) {
	for _, width := range widths {
		for _, is := range both {
			p := of(0, 1, alike(1, api.MaxFields)...)
			p.Part = is
			b := written(p, width)
			// the last length says that another one follows
			at := 8*head(is, width) + (api.MaxFields-2)*lengthBits(width)
			b[at/8] |= 0x80 >> (at % 8)
			wantError(t, b, width, api.ErrLong)
			wantError(t, append(b, make([]byte, 100)...), width, api.ErrLong)
			// a length that is too long is met behind that
			if width == 16 {
				b[head(is, width)] |= 0x40
				wantError(t, b, width, api.ErrLong)
			}
		}
	}
}

func TestReadMissingFields(t *testing.T) {
	for _, width := range widths {
		for many := 1; many <= api.MaxFields; many++ {
			for _, is := range both {
				p := of(1, many, alike(3, many)...)
				p.Part = is
				b := written(p, width)
				for n := range len(b) {
					want, e := read(b[:n], width)
					wantRead(t, b[:n], width, want, e)
					// two bytes of the last field may be missing
					if is := n > len(b)-3; is != (e == api.OK) {
						t.Fatalf("%d of %d bytes: %v", n, len(b), e)
					}
					if e != api.OK && e != api.ErrShort {
						t.Fatalf("%d of %d bytes: %v", n, len(b), e)
					}
				}
			}
		}
	}
}

func TestReadOfAllShortBytes(t *testing.T) {
	for v := range 1 << 16 {
		for _, width := range widths {
			for _, behind := range []string{"", "A", "\x00\x10AB", "\x00\x01\x80\x02AB"} {
				b := append([]byte{byte(v >> 8), byte(v)}, behind...)
				p, e := read(b, width)
				wantRead(t, b, width, p, e)
			}
		}
	}
}

func TestReadOfAnyBytes(t *testing.T) {
	r := rand.New(rand.NewSource(10))
	met := map[api.Errno]int{}
	for range 20000 {
		width := widths[r.Intn(2)]
		b := changed(r, width)
		p, e := read(b, width)
		wantRead(t, b, width, p, e)
		met[e]++
		if e == api.OK {
			wantWrite(t, p, width, b, api.OK)
		}
	}
	for _, e := range []api.Errno{api.OK, api.ErrShort, api.ErrForm, api.ErrLong, api.ErrNone} {
		if met[e] < 10 {
			t.Errorf("%v was met %d times", e, met[e])
		}
	}
}

// some is a packet that may be.
func some(r *rand.Rand, width, longest int) amd.Packet {
	lengths := make([]int, 1+r.Intn(api.MaxFields))
	for i := range lengths {
		lengths[i] = 1 + r.Intn(longest)
	}
	p := of(r.Intn(4), r.Intn(1<<width), lengths...)
	p.Poll = r.Intn(2) == 0
	if r.Intn(2) == 0 {
		p = part(p, r.Intn(places(width)), r.Intn(2) == 0)
	}
	return p
}

// changed is a packet's bytes, some of them changed.
func changed(r *rand.Rand, width int) []byte {
	p := some(r, width, 40)
	b := written(p, width)
	for range r.Intn(4) {
		b[r.Intn(min(len(b), 60))] ^= 1 << r.Intn(8)
	}
	if n := 8*head(p.Part, width) + (len(p.Fields)-2)*lengthBits(width); len(p.Fields) > 1 && r.Intn(3) == 0 {
		b[n/8] |= 0x80 >> (n % 8) // the last length says that another one follows
	}
	return b[:len(b)-r.Intn(2)*r.Intn(len(b))]
}

// P10.3

func TestThereAndBack(t *testing.T) {
	r := rand.New(rand.NewSource(103))
	for range 3000 {
		width := widths[r.Intn(2)]
		wantRight(t, some(r, width, 150), width)
	}
	for n := 1; n <= api.MaxLen; n++ {
		wantRight(t, of(0, n%32, n, 1+n%3), widths[n%2])
	}
	for n := 1; n < api.MaxPDU-4; n++ {
		wantRight(t, part(of(0, n%32, n), n, n%3 == 0), widths[n%2])
	}
}

func TestInOneWayAlone(t *testing.T) {
	for v := 1 << 23; v < 1<<24; v += 7 { // some, so that it doesn't last long
		b := []byte{byte(v >> 16), byte(v >> 8), byte(v), 0x00, 0x10, 0x00, 0x01, 0x41, 0x42}
		for _, width := range widths {
			p, e := amd.Read(b, width)
			if e != api.OK {
				continue
			}
			if again, e := amd.Write(p, width); e != api.OK || !bytes.Equal(again, b) {
				t.Fatalf("%x of %d is %v, which is %x", b, width, p, again)
			}
		}
	}
}

// rules 3, 4 and 5 of the document

func TestWhatIsHandedInStays(t *testing.T) {
	under := []byte("abcdefgh")
	p := amd.Packet{SN: 5, Fields: [][]byte{under[:1], under[2:4]}}
	want := unhex(t, "84050010616364")
	wantWrite(t, p, 10, want, api.OK)
	data := amd.Data(p)
	for i := range data {
		data[i] = 'z'
	}
	if string(under) != "abcdefgh" {
		t.Errorf("what was handed in is changed: %s", under)
	}
	b := append(bytes.Clone(want), "xyz"...)
	got, e := amd.Read(b[:len(want)], 10)
	if e != api.OK || !equal(got, p) {
		t.Fatalf("Read: %v %v", got, e)
	}
	for i, f := range got.Fields {
		_ = append(f, 'z', 'z', 'z')
		for j := range f {
			got.Fields[i][j] = 'z'
		}
	}
	if !bytes.Equal(b, append(bytes.Clone(want), "xyz"...)) {
		t.Errorf("what was handed in is changed: %x", b)
	}
}

func TestWhatIsHandedOutIsNewMemory(t *testing.T) {
	p := polling(part(of(1, 2, 5, 6, 7), 9, true))
	one, _ := amd.Write(p, 16)
	two, _ := amd.Write(p, 16)
	for i := range one {
		one[i] ^= 0xFF
	}
	if !bytes.Equal(two, written(p, 16)) {
		t.Errorf("Write shares its memory: %x", two)
	}
	got, _ := amd.Read(two, 16)
	for i := range two {
		two[i] ^= 0xFF
	}
	if !equal(got, p) {
		t.Errorf("Read shares its memory: %v", got)
	}
	// what is put behind one field meets no other one
	_ = append(got.Fields[0], 1, 2, 3, 4, 5, 6)
	_ = append(got.Fields[1], 1, 2, 3, 4, 5, 6)
	if !equal(got, p) {
		t.Errorf("fields share their memory: %v", got)
	}
	for _, f := range got.Fields {
		if cap(f) != len(f) {
			t.Errorf("there is room for %d behind", cap(f)-len(f))
		}
	}
	if l := got.Fields; cap(l) != len(l) {
		t.Errorf("there is room for %d fields behind", cap(l)-len(l))
	}
	if cap(two) != len(two) {
		t.Errorf("Write has room for %d behind", cap(two)-len(two))
	}
	if data := amd.Data(p); cap(data) != len(data) {
		t.Errorf("Data has room for %d behind", cap(data)-len(data))
	}
}
