package umd_test

import (
	"bytes"
	"encoding/hex"
	"math"
	"math/rand"
	"strconv"
	"strings"
	"testing"

	"bowline/api"
	"bowline/umd"
)

var (
	widths = []int{5, 10}
	// wrong is widths that may not be.
	wrong = []int{0, 1, 4, 6, 8, 9, 11, 15, 16, 64, -1, -5, -10, math.MinInt, math.MaxInt, 5 + 1<<32}
)

// head is how many bytes a head has.
func head(width int) int { return 1 + width/10 }

// digits is a number's bits as a text.
func digits(v, n int) string {
	text := strconv.FormatInt(int64(v), 2)
	return strings.Repeat("0", n-len(text)) + text
}

// packed is bits written as a text, as bytes.
func packed(text string) []byte {
	for len(text)%8 != 0 {
		text += "0"
	}
	b := make([]byte, len(text)/8)
	for i := range b {
		v, _ := strconv.ParseUint(text[8*i:8*i+8], 2, 8)
		b[i] = byte(v)
	}
	return b
}

// text is bytes' bits.
func text(b []byte) string {
	var all strings.Builder
	for _, x := range b {
		all.WriteString(digits(int(x), 8))
	}
	return all.String()
}

// written is the bytes of a packet that may be, found in another way than the package does.
func written(p umd.Packet, width int) []byte {
	all := strings.Repeat("0", 8*head(width)-3-width) + digits(p.FI, 2)
	last := len(p.Fields) - 1
	if last == 0 {
		all += "0"
	} else {
		all += "1"
	}
	all += digits(p.SN, width)
	for i, f := range p.Fields[:last] {
		if i < last-1 {
			all += "1"
		} else {
			all += "0"
		}
		all += digits(len(f), 11)
	}
	return append(packed(all), bytes.Join(p.Fields, nil)...)
}

// read is what Read asks for, found in another way than the package does.
func read(b []byte, width int) (umd.Packet, api.Errno) {
	none := umd.Packet{}
	n := head(width)
	if len(b) > api.MaxPDU {
		return none, api.ErrLong
	}
	if len(b) < n {
		return none, api.ErrShort
	}
	all := text(b[:min(len(b), 64)]) // no lengths reach further
	noughts := 8*n - 3 - width
	if strings.Contains(all[:noughts], "1") {
		return none, api.ErrForm
	}
	number := func(from, many int) int {
		v, _ := strconv.ParseInt(all[from:from+many], 2, 64)
		return int(v)
	}
	p := umd.Packet{FI: number(noughts, 2), SN: number(noughts+3, width)}
	lengths, at, more := []int{}, 8*n, all[noughts+2] == '1'
	for more {
		if len(all)-at < 12 {
			return none, api.ErrShort
		}
		if number(at+1, 11) == 0 {
			return none, api.ErrForm
		}
		lengths = append(lengths, number(at+1, 11))
		more = all[at] == '1'
		at += 12
		if more && len(lengths) == api.MaxFields-1 {
			return none, api.ErrLong
		}
	}
	for ; at%8 != 0; at++ {
		if all[at] == '1' {
			return none, api.ErrForm
		}
	}
	left := b[at/8:]
	for _, length := range lengths {
		if length > len(left) {
			return none, api.ErrShort
		}
		p.Fields = append(p.Fields, left[:length])
		left = left[length:]
	}
	if len(left) == 0 {
		return none, api.ErrShort
	}
	p.Fields = append(p.Fields, left)
	return p, api.OK
}

// field is so many bytes, the same ones for each seed.
func field(seed, many int) []byte {
	b := make([]byte, many)
	for i := range b {
		seed = (seed*1103515245 + 12345) % (1 << 31)
		b[i] = byte(seed >> 16)
	}
	return b
}

// of is a packet with fields of some lengths.
func of(fi, sn int, lengths ...int) umd.Packet {
	p := umd.Packet{FI: fi, SN: sn}
	for i, n := range lengths {
		p.Fields = append(p.Fields, field(fi+7*sn+100*i, n))
	}
	return p
}

// alike is so many times the same number.
func alike(n, many int) []int {
	l := make([]int, many)
	for i := range l {
		l[i] = n
	}
	return l
}

// full is lengths of so many fields, which have so many bytes together with their lengths' bytes.
func full(many, size int) []int {
	l := alike(1, many)
	l[many-1] = size - (many - 1)
	if many > 1 {
		l[many-1] -= ((many-1)*12 + 7) / 8
	}
	return l
}

// equal holds packets against each other in another way than Same does.
func equal(a, b umd.Packet) bool {
	if a.FI != b.FI || a.SN != b.SN || len(a.Fields) != len(b.Fields) {
		return false
	}
	for i, f := range a.Fields {
		if string(f) != string(b.Fields[i]) {
			return false
		}
	}
	return true
}

func wantWrite(t *testing.T, p umd.Packet, width int, want []byte, e api.Errno) {
	t.Helper()
	if b, f := umd.Write(p, width); !bytes.Equal(b, want) || f != e {
		t.Fatalf("Write(%v, %d): %x %v, want %x %v", p, width, b, f, want, e)
	}
}

func wantRead(t *testing.T, b []byte, width int, want umd.Packet, e api.Errno) {
	t.Helper()
	p, f := umd.Read(b, width)
	if !equal(p, want) || f != e {
		t.Fatalf("Read(%x, %d): %v %v, want %v %v", b, width, p, f, want, e)
	}
	if e != api.OK && p.Fields != nil {
		t.Fatalf("Read(%x, %d): fields with an error: %v", b, width, p)
	}
}

// wantError wants of Read an error, and nothing.
func wantError(t *testing.T, b []byte, width int, e api.Errno) {
	t.Helper()
	wantRead(t, b, width, umd.Packet{}, e)
}

// wantRight wants that a packet may be, goes there and back, and has the model's bytes.
func wantRight(t *testing.T, p umd.Packet, width int) {
	t.Helper()
	b := written(p, width)
	if !umd.Right(p, width) || umd.Size(p, width) != len(b) {
		t.Fatalf("%v of %d: %v, Size %d, want true and %d", p, width, umd.Right(p, width), umd.Size(p, width), len(b))
	}
	wantWrite(t, p, width, b, api.OK)
	wantRead(t, b, width, p, api.OK)
}

// wantWrong wants that a packet may not be.
func wantWrong(t *testing.T, p umd.Packet, width int) {
	t.Helper()
	if umd.Right(p, width) || umd.Size(p, width) != 0 {
		t.Fatalf("%v of %d: %v, Size %d, want false and 0", p, width, umd.Right(p, width), umd.Size(p, width))
	}
	wantWrite(t, p, width, nil, api.ErrForm)
}

func unhex(t *testing.T, s string) []byte {
	t.Helper()
	b, e := hex.DecodeString(s)
	if e != nil {
		t.Fatal(e)
	}
	return b
}

// P9.1

func TestExample(t *testing.T) {
	p := umd.Packet{FI: 0, SN: 3, Fields: [][]byte{{0x41}}}
	wantWrite(t, p, 5, []byte{0x03, 0x41}, api.OK)
	wantRead(t, []byte{0x03, 0x41}, 5, p, api.OK)
}

func TestBytes(t *testing.T) {
	for _, c := range []struct {
		p     umd.Packet
		width int
		want  string
	}{
		{umd.Packet{Fields: [][]byte{{0}}}, 5, "0000"},
		{umd.Packet{FI: 3, SN: 31, Fields: [][]byte{{0xFF}}}, 5, "dfff"},
		{umd.Packet{FI: 1, SN: 0, Fields: [][]byte{{0x61}}}, 5, "4061"},
		{umd.Packet{FI: 2, SN: 1, Fields: [][]byte{{0x62}}}, 5, "8162"},
		{umd.Packet{SN: 3, Fields: [][]byte{{0x41}, {0x42}}}, 5, "2300104142"},
		{umd.Packet{SN: 3, Fields: [][]byte{{0x41}, {0x42, 0x43}, {0x44}}}, 5, "2380100241424344"},
		{umd.Packet{SN: 3, Fields: [][]byte{{0x41}}}, 10, "000341"},
		{umd.Packet{SN: 1023, FI: 3, Fields: [][]byte{{0x41}}}, 10, "1bff41"},
		{umd.Packet{SN: 0x155, FI: 1, Fields: [][]byte{{0x41}, {0x42}}}, 10, "0d5500104142"},
		{umd.Packet{SN: 512, FI: 2, Fields: [][]byte{{0x41}, {0x42}}}, 10, "160000104142"},
	} {
		b := unhex(t, c.want)
		wantWrite(t, c.p, c.width, b, api.OK)
		wantRead(t, b, c.width, c.p, api.OK)
		if umd.Size(c.p, c.width) != len(b) {
			t.Errorf("Size of %v: %d, want %d", c.p, umd.Size(c.p, c.width), len(b))
		}
	}
}

func TestAllHeads(t *testing.T) {
	for _, width := range widths {
		for fi := range 4 {
			for sn := range 1 << width {
				wantRight(t, of(fi, sn, 1), width)
				wantRight(t, of(fi, sn, 3, 2), width)
			}
		}
	}
}

func TestWrongHeads(t *testing.T) {
	for _, width := range widths {
		for _, fi := range []int{-1, -2, 4, 5, 8, 1 << 32, math.MinInt, math.MaxInt} {
			p := of(0, 0, 1)
			p.FI = fi
			wantWrong(t, p, width)
		}
		for _, sn := range []int{-1, -32, 1 << width, 1<<width + 1, 1 << 16, 1 << 32, math.MinInt, math.MaxInt} {
			p := of(0, 0, 1)
			p.SN = sn
			wantWrong(t, p, width)
		}
	}
	wantWrong(t, of(0, 32, 1), 5)
	wantRight(t, of(0, 32, 1), 10)
}

func TestManyFields(t *testing.T) {
	for _, width := range widths {
		for many := 1; many <= api.MaxFields; many++ {
			wantRight(t, of(many%4, many, alike(1, many)...), width)
			wantRight(t, of(many%4, many, alike(100, many)...), width)
		}
		wantWrong(t, umd.Packet{}, width)
		wantWrong(t, umd.Packet{Fields: [][]byte{}}, width)
		for _, many := range []int{api.MaxFields + 1, api.MaxFields + 2, 5000} {
			wantWrong(t, of(0, 0, alike(1, many)...), width)
		}
	}
}

func TestEmptyField(t *testing.T) {
	for _, width := range widths {
		for many := 1; many <= api.MaxFields; many++ {
			for at := range many {
				p := of(0, 1, alike(2, many)...)
				p.Fields[at] = nil
				wantWrong(t, p, width)
				p.Fields[at] = []byte{}
				wantWrong(t, p, width)
			}
		}
	}
}

func TestLongField(t *testing.T) {
	for _, width := range widths {
		wantRight(t, of(0, 1, api.MaxLen, 1), width)
		wantWrong(t, of(0, 1, api.MaxLen+1, 1), width)
		wantRight(t, of(0, 1, 1, api.MaxLen, 1), width)
		wantWrong(t, of(0, 1, 1, api.MaxLen+1, 1), width)
		// the last one has no length
		wantRight(t, of(0, 1, api.MaxLen+1), width)
		wantRight(t, of(0, 1, 1, api.MaxLen+1), width)
	}
}

func TestLongPacket(t *testing.T) {
	for _, width := range widths {
		for many := 1; many <= api.MaxFields; many++ {
			room := api.MaxPDU - head(width)
			p := of(0, 1, full(many, room)...)
			wantRight(t, p, width)
			if n := umd.Size(p, width); n != api.MaxPDU {
				t.Errorf("%d fields: Size %d", many, n)
			}
			wantRight(t, of(0, 1, full(many, room-1)...), width)
			wantWrong(t, of(0, 1, full(many, room+1)...), width)
			wantWrong(t, of(0, 1, full(many, room+2)...), width)
			wantWrong(t, of(0, 1, full(many, 100000)...), width)
		}
		wantWrong(t, of(0, 1, alike(api.MaxLen, api.MaxFields)...), width)
	}
	// one byte more of a head is one too many
	p := of(0, 1, api.MaxPDU-1)
	wantRight(t, p, 5)
	wantWrong(t, p, 10)
}

func TestWrongWidth(t *testing.T) {
	for _, width := range wrong {
		for _, p := range []umd.Packet{{}, of(0, 1, 1), of(4, -1, 1), of(0, 1, api.MaxPDU+1)} {
			if umd.Right(p, width) || umd.Size(p, width) != 0 {
				t.Errorf("of %d: %v, Size %d", width, umd.Right(p, width), umd.Size(p, width))
			}
			wantWrite(t, p, width, nil, api.ErrKind)
		}
		for _, b := range [][]byte{nil, {}, {0x03, 0x41}, {0xFF, 0xFF, 0xFF}, make([]byte, api.MaxPDU+1)} {
			wantError(t, b, width, api.ErrKind)
		}
	}
}

func TestSame(t *testing.T) {
	a := of(1, 2, 3, 4)
	if !umd.Same(a, of(1, 2, 3, 4)) || !umd.Same(a, a) {
		t.Error("equal ones are not")
	}
	other := map[string]umd.Packet{
		"FI":         {FI: 2, SN: a.SN, Fields: a.Fields},
		"SN":         {FI: a.FI, SN: 3, Fields: a.Fields},
		"fewer":      {FI: a.FI, SN: a.SN, Fields: a.Fields[:1]},
		"more":       {FI: a.FI, SN: a.SN, Fields: append(a.Fields[:2:2], []byte{1})},
		"none":       {FI: a.FI, SN: a.SN},
		"one's end":  {FI: a.FI, SN: a.SN, Fields: [][]byte{a.Fields[0][:2], a.Fields[1]}},
		"one's byte": {FI: a.FI, SN: a.SN, Fields: [][]byte{a.Fields[0], append(bytes.Clone(a.Fields[1][:3]), a.Fields[1][3]+1)}},
		"cut elsewhere": {FI: a.FI, SN: a.SN, Fields: [][]byte{
			append(bytes.Clone(a.Fields[0]), a.Fields[1][0]), a.Fields[1][1:]}},
		"turned": {FI: a.FI, SN: a.SN, Fields: [][]byte{a.Fields[1], a.Fields[0]}},
		"whole":  {FI: a.FI, SN: a.SN, Fields: [][]byte{bytes.Join(a.Fields, nil)}},
	}
	for name, b := range other {
		if umd.Same(a, b) || umd.Same(b, a) {
			t.Errorf("%s: unlike ones are equal", name)
		}
	}
}

func TestSameOfWhatMayNotBe(t *testing.T) {
	if !umd.Same(umd.Packet{}, umd.Packet{Fields: [][]byte{}}) {
		t.Error("no fields are unlike no fields")
	}
	if !umd.Same(umd.Packet{Fields: [][]byte{nil}}, umd.Packet{Fields: [][]byte{{}}}) {
		t.Error("an empty field is unlike an empty one")
	}
	if umd.Same(umd.Packet{}, umd.Packet{Fields: [][]byte{nil}}) {
		t.Error("no field is an empty one")
	}
	if !umd.Same(umd.Packet{FI: -1, SN: math.MinInt}, umd.Packet{FI: -1, SN: math.MinInt}) {
		t.Error("equal ones are not")
	}
	if umd.Same(umd.Packet{FI: 1}, umd.Packet{SN: 1}) {
		t.Error("FI is SN")
	}
}

// P9.2

func TestReadLong(t *testing.T) {
	for _, width := range widths {
		for _, many := range []int{api.MaxPDU + 1, api.MaxPDU + 2, 9000} {
			for _, x := range []byte{0, 0xFF} {
				wantError(t, bytes.Repeat([]byte{x}, many), width, api.ErrLong)
			}
		}
		b := make([]byte, api.MaxPDU)
		wantRead(t, b, width, umd.Packet{Fields: [][]byte{b[head(width):]}}, api.OK)
	}
}

func TestReadShortHead(t *testing.T) {
	wantError(t, nil, 5, api.ErrShort)
	wantError(t, []byte{}, 5, api.ErrShort)
	wantError(t, nil, 10, api.ErrShort)
	for v := range 256 {
		// noughts that are 1 are not looked at, if the head is missing
		wantError(t, []byte{byte(v)}, 10, api.ErrShort)
		// a head, and nothing behind it: a length's bits are missing, or the one field
		wantError(t, []byte{byte(v)}, 5, api.ErrShort)
	}
}

func TestReadNoughts(t *testing.T) {
	for v := range 256 {
		for _, behind := range []string{"00", "0041", "0000104142", "000000"} {
			b := append([]byte{byte(v)}, unhex(t, behind)...)
			p, e := read(b, 10)
			wantRead(t, b, 10, p, e)
			if v > 0x1F && e != api.ErrForm {
				t.Fatalf("%x: %v", b, e)
			}
		}
	}
}

func TestReadLengthsErrors(t *testing.T) {
	for _, c := range []struct {
		b     string
		width int
		e     api.Errno
	}{
		{"20", 5, api.ErrShort},
		{"2000", 5, api.ErrShort},
		{"200010", 5, api.ErrShort},
		{"20001041", 5, api.ErrShort},
		{"2000104142", 5, api.OK},
		{"20000041", 5, api.ErrForm},
		{"2000004142", 5, api.ErrForm},
		{"2000114142", 5, api.ErrForm},
		{"20001f4142", 5, api.ErrForm},
		{"20801000", 5, api.ErrForm},
		{"208010", 5, api.ErrShort},
		{"2080100041", 5, api.ErrForm},
		{"2080100141", 5, api.ErrShort},
		{"208010014142", 5, api.ErrShort},
		{"20801001414243", 5, api.OK},
		{"20ffffffffff", 5, api.ErrShort},
		{"040000104142", 10, api.OK},
		{"0400001041", 10, api.ErrShort},
		{"0400", 10, api.ErrShort},
		{"040000", 10, api.ErrShort},
		{"04000000", 10, api.ErrForm},
		{"040000114142", 10, api.ErrForm},
	} {
		b := unhex(t, c.b)
		p, e := read(b, c.width)
		if e != c.e {
			t.Fatalf("%s: the model says %v, want %v", c.b, e, c.e)
		}
		wantRead(t, b, c.width, p, c.e)
	}
}

func TestReadTooManyLengths(t *testing.T) {
	for _, width := range widths {
		b := written(of(0, 1, alike(1, api.MaxFields)...), width)
		// the last length says that another one follows
		at := 8*head(width) + (api.MaxFields-2)*12
		b[at/8] |= 0x80 >> (at % 8)
		wantError(t, b, width, api.ErrLong)
		wantError(t, append(b, make([]byte, 100)...), width, api.ErrLong)
	}
	wantError(t, append([]byte{0x3F}, bytes.Repeat([]byte{0xFF}, 200)...), 5, api.ErrLong)
}

func TestReadMissingFields(t *testing.T) {
	for _, width := range widths {
		for many := 1; many <= api.MaxFields; many++ {
			p := of(1, many, alike(3, many)...)
			b := written(p, width)
			for n := range len(b) {
				want, e := read(b[:n], width)
				wantRead(t, b[:n], width, want, e)
				// two bytes of the last field may be missing
				if is := n > len(b)-3; is != (e == api.OK) {
					t.Fatalf("%d of %d bytes: %v", n, len(b), e)
				}
				if e != api.OK && e != api.ErrShort {
					t.Fatalf("%d of %d bytes: %v", n, len(b), e)
				}
			}
		}
	}
}

func TestReadOfAllShortBytes(t *testing.T) {
	for v := range 1 << 16 {
		for _, width := range widths {
			for _, behind := range []string{"", "A", "AB", "\x00\x10AB", "\x10A"} {
				b := append([]byte{byte(v >> 8), byte(v)}, behind...)
				p, e := read(b, width)
				wantRead(t, b, width, p, e)
			}
		}
	}
}

func TestReadOfAnyBytes(t *testing.T) {
	r := rand.New(rand.NewSource(9))
	met := map[api.Errno]int{}
	for range 20000 {
		width := widths[r.Intn(2)]
		b := changed(r, width)
		p, e := read(b, width)
		wantRead(t, b, width, p, e)
		met[e]++
		if e == api.OK {
			wantWrite(t, p, width, b, api.OK)
		}
	}
	for _, e := range []api.Errno{api.OK, api.ErrShort, api.ErrForm, api.ErrLong} {
		if met[e] < 10 {
			t.Errorf("%v was met %d times", e, met[e])
		}
	}
}

// changed is a packet's bytes, some of them changed.
func changed(r *rand.Rand, width int) []byte {
	lengths := make([]int, 1+r.Intn(api.MaxFields))
	for i := range lengths {
		lengths[i] = 1 + r.Intn(40)
	}
	b := written(of(r.Intn(4), r.Intn(1<<width), lengths...), width)
	for range r.Intn(4) {
		b[r.Intn(min(len(b), 45))] ^= 1 << r.Intn(8)
	}
	if n := 8*head(width) + (len(lengths)-2)*12; len(lengths) > 1 && r.Intn(3) == 0 {
		b[n/8] |= 0x80 >> (n % 8) // the last length says that another one follows
	}
	return b[:len(b)-r.Intn(2)*r.Intn(len(b))]
}

// P9.3

func TestThereAndBack(t *testing.T) {
	r := rand.New(rand.NewSource(93))
	for range 3000 {
		lengths := make([]int, 1+r.Intn(api.MaxFields))
		for i := range lengths {
			lengths[i] = 1 + r.Intn(150)
		}
		width := widths[r.Intn(2)]
		wantRight(t, of(r.Intn(4), r.Intn(1<<width), lengths...), width)
	}
	for n := 1; n <= api.MaxLen; n++ {
		wantRight(t, of(0, n%32, n, 1+n%3), widths[n%2])
	}
	for n := 1; n < api.MaxPDU-1; n++ {
		wantRight(t, of(0, n%32, n), widths[n%2])
	}
}

func TestInOneWayAlone(t *testing.T) {
	for v := range 1 << 24 {
		if v%7 != 0 { // some, so that it doesn't last long
			continue
		}
		b := []byte{byte(v >> 16), byte(v >> 8), byte(v), 0x01, 0x02}
		for _, width := range widths {
			p, e := umd.Read(b, width)
			if e != api.OK {
				continue
			}
			if again, e := umd.Write(p, width); e != api.OK || !bytes.Equal(again, b) {
				t.Fatalf("%x of %d is %v, which is %x", b, width, p, again)
			}
		}
	}
}

// rules 3, 4 and 5 of the document

func TestWhatIsHandedInStays(t *testing.T) {
	under := []byte("abcdefgh")
	p := umd.Packet{SN: 3, Fields: [][]byte{under[:1], under[2:4]}}
	want := unhex(t, "230010616364")
	wantWrite(t, p, 5, want, api.OK)
	if string(under) != "abcdefgh" {
		t.Errorf("what was handed in is changed: %s", under)
	}
	b := append(bytes.Clone(want), "xyz"...)
	got, e := umd.Read(b[:len(want)], 5)
	if e != api.OK || !equal(got, p) {
		t.Fatalf("Read: %v %v", got, e)
	}
	for i, f := range got.Fields {
		_ = append(f, 'z', 'z', 'z')
		for j := range f {
			got.Fields[i][j] = 'z'
		}
	}
	if !bytes.Equal(b, append(bytes.Clone(want), "xyz"...)) {
		t.Errorf("what was handed in is changed: %x", b)
	}
}

func TestWhatIsHandedOutIsNewMemory(t *testing.T) {
	p := of(1, 2, 5, 6, 7)
	one, _ := umd.Write(p, 10)
	two, _ := umd.Write(p, 10)
	for i := range one {
		one[i] ^= 0xFF
	}
	if !bytes.Equal(two, written(p, 10)) {
		t.Errorf("Write shares its memory: %x", two)
	}
	got, _ := umd.Read(two, 10)
	for i := range two {
		two[i] ^= 0xFF
	}
	if !equal(got, p) {
		t.Errorf("Read shares its memory: %v", got)
	}
	// what is put behind one field meets no other one
	_ = append(got.Fields[0], 1, 2, 3, 4, 5, 6)
	_ = append(got.Fields[1], 1, 2, 3, 4, 5, 6)
	if !equal(got, p) {
		t.Errorf("fields share their memory: %v", got)
	}
	for _, f := range got.Fields {
		if cap(f) != len(f) {
			t.Errorf("there is room for %d behind", cap(f)-len(f))
		}
	}
	if l := got.Fields; cap(l) != len(l) {
		t.Errorf("there is room for %d fields behind", cap(l)-len(l))
	}
	if cap(two) != len(two) {
		t.Errorf("Write has room for %d behind", cap(two)-len(two))
	}
}
