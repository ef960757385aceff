package status_test

import (
	"bytes"
	"encoding/hex"
	"math"
	"math/rand"
	"strconv"
	"strings"
	"testing"

	"bowline/api"
	"bowline/status"
)

type (
	Miss   = status.Miss
	Status = status.Status
)

var (
	widths = []int{10, 16}
	both   = []bool{false, true}
	// wrong is widths that may not be.
	wrong = []int{0, 1, 5, 8, 9, 11, 12, 15, 17, 64, -1, -10, -16, math.MinInt, math.MaxInt, 10 + 1<<32}
)

// placeBits is how many bits From and To have.
func placeBits(width int) int { return 15 + width/16 }

// end is the greatest To.
func end(width int) int { return 1<<placeBits(width) - 1 }

// numbers is how many numbers there are.
func numbers(width int) int { return 1 << width }

// headBits is how many bits there are ahead of the misses.
func headBits(width int) int { return 5 + width }

// missBits is how many bits a miss has.
func missBits(m Miss, width int) int {
	if m.Part {
		return width + 2 + 2*placeBits(width)
	}
	return width + 2
}

// digits is a number's bits as a text.
func digits(v, n int) string {
	text := strconv.FormatInt(int64(v), 2)
	return strings.Repeat("0", n-len(text)) + text
}

func digit(is bool) string {
	if is {
		return "1"
	}
	return "0"
}

// packed is bits written as a text, as bytes.
func packed(text string) []byte {
	for len(text)%8 != 0 {
		text += "0"
	}
	b := make([]byte, len(text)/8)
	for i := range b {
		v, _ := strconv.ParseUint(text[8*i:8*i+8], 2, 8)
		b[i] = byte(v)
	}
	return b
}

// text is bytes' bits.
func text(b []byte) string {
	var all strings.Builder
	for _, x := range b {
		all.WriteString(digits(int(x), 8))
	}
	return all.String()
}

// missing is a miss's bits; a To of 0 is all ones.
func missing(m Miss, more bool, width int) string {
	all := digits(m.SN, width) + digit(more) + digit(m.Part)
	switch {
	case m.Part && m.To == 0:
		all += digits(m.From, placeBits(width)) + strings.Repeat("1", placeBits(width))
	case m.Part:
		all += digits(m.From, placeBits(width)) + digits(m.To-1, placeBits(width))
	}
	return all
}

// bitsOf is a status's bits, whether it may be or not, and a bit of the last miss that tells that another one follows, if more is.
func bitsOf(s Status, more bool, width int) string {
	last := len(s.Misses) - 1
	all := "0000" + digits(s.Ack, width) + digit(last >= 0 || more)
	for i, m := range s.Misses {
		all += missing(m, i < last || more, width)
	}
	return all
}

// written is a status's bytes, found in another way than the package does.
func written(s Status, width int) []byte { return packed(bitsOf(s, false, width)) }

// read is what Read asks for, found in another way than the package does.
func read(b []byte, width int) (Status, api.Errno) {
	all := text(b)
	switch {
	case len(b) == 0:
		return Status{}, api.ErrShort
	case all[0] == '1':
		return Status{}, api.ErrNone
	case all[:4] != "0000":
		return Status{}, api.ErrForm
	case len(all) < headBits(width):
		return Status{}, api.ErrShort
	}
	number := func(from, many int) int {
		v, _ := strconv.ParseInt(all[from:from+many], 2, 64)
		return int(v)
	}
	s := Status{Ack: number(4, width)}
	at := headBits(width)
	for more := all[at-1] == '1'; more; {
		if len(all)-at < width+2 {
			return Status{}, api.ErrShort
		}
		m := Miss{SN: number(at, width), Part: all[at+width+1] == '1'}
		if len(all)-at < missBits(m, width) {
			return Status{}, api.ErrShort
		}
		more = all[at+width] == '1'
		if more && len(s.Misses)+1 == api.MaxNacks {
			return Status{}, api.ErrLong
		}
		if m.Part {
			m.From = number(at+width+2, placeBits(width))
			m.To = number(at+width+2+placeBits(width), placeBits(width)) + 1
			if m.To == 1<<placeBits(width) {
				m.To = 0
			} else if m.From >= m.To {
				return Status{}, api.ErrForm
			}
		}
		at += missBits(m, width)
		s.Misses = append(s.Misses, m)
	}
	if left := all[at:]; len(left) > 7 || strings.Contains(left, "1") {
		return Status{}, api.ErrForm
	}
	return s, api.OK
}

// equal holds statuses against each other in another way than Same does.
func equal(a, b Status) bool {
	if a.Ack != b.Ack || len(a.Misses) != len(b.Misses) {
		return false
	}
	for i, m := range a.Misses {
		n := b.Misses[i]
		if m.SN != n.SN || m.Part != n.Part || m.From != n.From || m.To != n.To {
			return false
		}
	}
	return true
}

// of is a status of some misses.
func of(ack int, misses ...Miss) Status { return Status{Ack: ack, Misses: misses} }

func whole(sn int) Miss { return Miss{SN: sn} }

func part(sn, from, to int) Miss { return Miss{SN: sn, Part: true, From: from, To: to} }

// many is so many misses, some of them parts.
func many(n, width int) []Miss {
	l := make([]Miss, n)
	for i := range l {
		l[i] = whole((i*37 + 11) % numbers(width))
		if i%3 == 1 {
			l[i] = part(i, 100*i, 100*i+i)
		}
		if i%5 == 4 {
			l[i] = part(numbers(width)-i, 7*i, 0)
		}
	}
	return l
}

// anyMiss is a miss that may be.
func anyMiss(r *rand.Rand, width int) Miss {
	m := whole(r.Intn(numbers(width)))
	switch r.Intn(4) {
	case 0:
		m = part(m.SN, r.Intn(end(width)+1), 0)
	case 1:
		to := 1 + r.Intn(end(width))
		m = part(m.SN, r.Intn(to), to)
	}
	return m
}

// anyStatus is a status that may be.
func anyStatus(r *rand.Rand, width int) Status {
	s := of(r.Intn(numbers(width)))
	for range r.Intn(api.MaxNacks + 1) {
		s.Misses = append(s.Misses, anyMiss(r, width))
	}
	return s
}

func wantWrite(t *testing.T, s Status, width int, want []byte, e api.Errno) {
	t.Helper()
	b, f := status.Write(s, width)
	if !bytes.Equal(b, want) || f != e {
		t.Fatalf("Write(%v, %d): %x %v, want %x %v", s, width, b, f, want, e)
	}
}

func wantRead(t *testing.T, b []byte, width int, want Status, e api.Errno) {
	t.Helper()
	s, f := status.Read(b, width)
	if !equal(s, want) || f != e {
		t.Fatalf("Read(%x, %d): %v %v, want %v %v", b, width, s, f, want, e)
	}
}

// wantError wants of Read an error, and nothing.
func wantError(t *testing.T, b []byte, width int, e api.Errno) {
	t.Helper()
	wantRead(t, b, width, Status{}, e)
}

// wantRight wants that a status may be, goes there and back, and has the model's bytes.
func wantRight(t *testing.T, s Status, width int) {
	t.Helper()
	b := written(s, width)
	if !status.Right(s, width) || status.Size(s, width) != len(b) {
		t.Fatalf("%v of %d: %v, Size %d, want true and %d", s, width, status.Right(s, width), status.Size(s, width), len(b))
	}
	wantWrite(t, s, width, b, api.OK)
	wantRead(t, b, width, s, api.OK)
}

// wantWrong wants that a status may not be.
func wantWrong(t *testing.T, s Status, width int) {
	t.Helper()
	if status.Right(s, width) || status.Size(s, width) != 0 {
		t.Fatalf("%v of %d: %v, Size %d, want false and 0", s, width, status.Right(s, width), status.Size(s, width))
	}
	wantWrite(t, s, width, nil, api.ErrForm)
}

func unhex(t *testing.T, s string) []byte {
	t.Helper()
	b, e := hex.DecodeString(s)
	if e != nil {
		t.Fatal(e)
	}
	return b
}

// P11.1

func TestExample(t *testing.T) {
	wantWrite(t, of(5), 10, []byte{0x00, 0x14}, api.OK)
	wantRead(t, []byte{0x00, 0x14}, 10, of(5), api.OK)
}

func TestBytes(t *testing.T) {
	for _, c := range []struct {
		s     Status
		width int
		want  string
	}{
		{of(0), 10, "0000"},
		{of(1023), 10, "0ffc"},
		{of(0), 16, "000000"},
		{of(5), 16, "000050"},
		{of(65535), 16, "0ffff0"},
		// 0000 0000000000 1, 0000000001 0 0, 5 noughts
		{of(0, whole(1)), 10, "00020080"},
		// two of 10 bits: 0000 0000000101 1, 0000000001 1 0, 0000000011 0 0, a nought
		{of(5, whole(1), whole(3)), 10, "001600c018"},
		// a part of 10 bits: .. 0000000001 0 1, 15 bits of From, 15 of To less 1, 7 noughts
		{of(0, part(1, 1, 3)), 10, "000200a000400100"},
		{of(0, part(1, 0, 0)), 10, "000200a0003fff80"},
		// a part of 16 bits: 0000 0..0 1, 16 bits, 0 1, 16 bits of From, 16 of To less 1, a nought
		{of(0, part(1, 1, 3)), 16, "000008000a00020004"},
		{of(0, part(1, 0, 0)), 16, "000008000a0001fffe"},
	} {
		b := unhex(t, strings.ReplaceAll(c.want, " ", ""))
		wantWrite(t, c.s, c.width, b, api.OK)
		wantRead(t, b, c.width, c.s, api.OK)
		if status.Size(c.s, c.width) != len(b) {
			t.Errorf("Size of %v: %d, want %d", c.s, status.Size(c.s, c.width), len(b))
		}
	}
}

func TestAcks(t *testing.T) {
	for _, width := range widths {
		for ack := range numbers(width) {
			wantRight(t, of(ack), width)
		}
		for _, ack := range []int{-1, numbers(width), numbers(width) + 1, 1 << 20, 1 << 32, math.MinInt, math.MaxInt} {
			wantWrong(t, of(ack), width)
			wantWrong(t, of(ack, whole(1)), width)
		}
	}
	wantWrong(t, of(1024), 10)
	wantRight(t, of(1024), 16)
}

func TestNumbersOfMisses(t *testing.T) {
	for _, width := range widths {
		for sn := range numbers(width) {
			wantRight(t, of(sn*3%numbers(width), whole(sn)), width)
			wantRight(t, of(sn, part(sn, sn%77, 0), whole(sn)), width)
		}
		for _, sn := range []int{-1, numbers(width), numbers(width) + 1, 1 << 20, 1 << 32, math.MinInt, math.MaxInt} {
			wantWrong(t, of(0, whole(sn)), width)
			wantWrong(t, of(0, part(sn, 1, 2)), width)
			wantWrong(t, of(0, whole(1), whole(2), whole(sn)), width)
			wantWrong(t, of(0, whole(sn), whole(1), whole(2)), width)
		}
	}
	wantWrong(t, of(0, whole(1024)), 10)
	wantRight(t, of(0, whole(1024)), 16)
}

func TestMissesInAnyOrder(t *testing.T) {
	// nothing is said of where a miss is, nor that it is named once
	for _, width := range widths {
		wantRight(t, of(5, whole(5)), width)
		wantRight(t, of(5, whole(900), whole(3), whole(3)), width)
		wantRight(t, of(5, part(3, 5, 9), part(3, 1, 7), whole(3)), width)
	}
}

func TestManyMisses(t *testing.T) {
	for _, width := range widths {
		for n := range api.MaxNacks + 1 {
			wantRight(t, of(n, many(n, width)...), width)
		}
		for _, n := range []int{api.MaxNacks + 1, api.MaxNacks + 2, 2 * api.MaxNacks, 1000} {
			wantWrong(t, of(n, make([]Miss, n)...), width)
		}
	}
}

func TestFromAndTo(t *testing.T) {
	for _, width := range widths {
		last := end(width)
		for _, c := range [][2]int{{0, 0}, {1, 0}, {last - 1, 0}, {last, 0}, {0, 1}, {0, 2}, {1, 2}, {0, last}, {last - 1, last}, {last - 2, last - 1}, {5, 300}} {
			wantRight(t, of(1, part(2, c[0], c[1])), width)
			wantRight(t, of(1, whole(1), part(2, c[0], c[1]), whole(3)), width)
		}
		for _, c := range [][2]int{
			{-1, 0}, {last + 1, 0}, {last + 2, 0}, {math.MinInt, 0}, {math.MaxInt, 0},
			{1, 1}, {2, 1}, {last, last}, {last + 1, last}, {300, 5}, {-1, 1}, {-1, -1}, {-2, -1}, {0, -1}, {math.MinInt, math.MinInt + 1},
			{0, last + 1}, {last, last + 1}, {0, last + 2}, {last + 1, last + 2}, {0, 1 << 32}, {0, math.MaxInt}, {0, math.MinInt}, {math.MinInt, math.MaxInt},
		} {
			wantWrong(t, of(1, part(2, c[0], c[1])), width)
			wantWrong(t, of(1, whole(1), whole(3), part(2, c[0], c[1])), width)
			wantWrong(t, of(1, part(2, c[0], c[1]), whole(1), whole(3)), width)
		}
	}
	wantWrong(t, of(1, part(2, 32768, 0)), 10)
	wantRight(t, of(1, part(2, 32768, 0)), 16)
	wantWrong(t, of(1, part(2, 0, 32768)), 10)
	wantRight(t, of(1, part(2, 0, 32768)), 16)
}

func TestAllPlaces(t *testing.T) {
	for _, width := range widths {
		for place := range end(width) + 1 {
			wantRight(t, of(1, part(2, place, 0)), width)
			if place > 0 {
				wantRight(t, of(1, part(2, place-1, place)), width)
				wantRight(t, of(1, part(2, place/2, place)), width)
			}
		}
	}
}

func TestWhatIsNoPart(t *testing.T) {
	for _, width := range widths {
		for _, c := range [][2]int{{1, 0}, {0, 1}, {1, 2}, {-1, 0}, {0, -1}, {math.MinInt, 0}, {0, math.MaxInt}} {
			wantWrong(t, of(1, Miss{SN: 2, From: c[0], To: c[1]}), width)
			wantWrong(t, of(1, whole(1), Miss{SN: 2, From: c[0], To: c[1]}), width)
		}
	}
}

func TestSizes(t *testing.T) {
	for _, c := range []struct{ wholes, parts, width, want int }{
		{0, 0, 10, 2}, {1, 0, 10, 4}, {2, 0, 10, 5}, {0, 1, 10, 8}, {1, 1, 10, 9}, {32, 0, 10, 50}, {0, 32, 10, 170},
		{0, 0, 16, 3}, {1, 0, 16, 5}, {2, 0, 16, 8}, {0, 1, 16, 9}, {1, 1, 16, 12}, {32, 0, 16, 75}, {0, 32, 16, 203},
	} {
		s := of(1, make([]Miss, c.wholes)...)
		for range c.parts {
			s.Misses = append(s.Misses, part(1, 1, 2))
		}
		if n := status.Size(s, c.width); n != c.want {
			t.Errorf("Size of %d and %d parts of %d: %d, want %d", c.wholes, c.parts, c.width, n, c.want)
		}
	}
}

func TestWrongWidths(t *testing.T) {
	for _, width := range wrong {
		for _, s := range []Status{{}, of(5), of(5, whole(1)), of(-1), of(5, make([]Miss, 40)...), of(0, part(1, 2, 1))} {
			if status.Right(s, width) || status.Size(s, width) != 0 {
				t.Errorf("%v may be of %d", s, width)
			}
			wantWrite(t, s, width, nil, api.ErrKind)
		}
		for _, text := range []string{"", "00", "0014", "80", "8014", "10", "000000"} {
			wantError(t, unhex(t, text), width, api.ErrKind)
		}
	}
}

func TestSame(t *testing.T) {
	s := of(5, whole(1), part(2, 3, 4))
	if !status.Same(s, of(5, whole(1), part(2, 3, 4))) || !status.Same(s, s) {
		t.Error("equal ones are not the same")
	}
	unlike := []Status{
		of(6, whole(1), part(2, 3, 4)),
		of(5, whole(2), part(2, 3, 4)),
		of(5, whole(1), part(1, 3, 4)),
		of(5, whole(1), part(2, 2, 4)),
		of(5, whole(1), part(2, 3, 5)),
		of(5, whole(1), Miss{SN: 2, From: 3, To: 4}),
		of(5, part(2, 3, 4), whole(1)),
		of(5, whole(1)),
		of(5, part(2, 3, 4)),
		of(5, whole(1), part(2, 3, 4), whole(0)),
		of(5, whole(1), part(2, 3, 4), part(2, 3, 4)),
		of(5),
		{},
	}
	for _, other := range unlike {
		if status.Same(s, other) || status.Same(other, s) {
			t.Errorf("%v and %v are the same", s, other)
		}
	}
	if !status.Same(of(5), Status{Ack: 5, Misses: []Miss{}}) || !status.Same(Status{}, Status{}) {
		t.Error("a nil list and an empty one are not the same")
	}
	// ones that may not be are held against each other as well
	odd := of(-1, make([]Miss, 100)...)
	if !status.Same(odd, of(-1, make([]Miss, 100)...)) || status.Same(odd, of(-1, make([]Miss, 99)...)) {
		t.Error("ones that may not be are not held against each other")
	}
}

// P11.2

func TestReadErrors(t *testing.T) {
	for _, width := range widths {
		wantError(t, nil, width, api.ErrShort)
		wantError(t, []byte{}, width, api.ErrShort)
		for first := 1; first < 256; first++ {
			e := api.ErrShort // bits are missing
			switch {
			case first >= 128:
				e = api.ErrNone
			case first >= 16:
				e = api.ErrForm
			}
			wantError(t, []byte{byte(first)}, width, e)
			if first >= 16 { // whatever comes behind
				wantError(t, []byte{byte(first), 0, 0, 0}, width, e)
				wantError(t, append([]byte{byte(first)}, bytes.Repeat([]byte{0xFF}, 300)...), width, e)
			}
		}
	}
}

func TestReadShort(t *testing.T) {
	for _, width := range widths {
		for n := range api.MaxNacks + 1 {
			b := written(of(n, many(n, width)...), width)
			for cut := range len(b) {
				wantError(t, b[:cut], width, api.ErrShort)
			}
		}
	}
}

func TestReadLong(t *testing.T) {
	for _, width := range widths {
		for _, l := range [][]Miss{make([]Miss, api.MaxNacks), many(api.MaxNacks, width)} {
			s := of(1, l...)
			wantRead(t, written(s, width), width, s, api.OK)
			follows := bitsOf(s, true, width)
			wantError(t, packed(follows), width, api.ErrLong)
			for _, behind := range []string{missing(whole(1), false, width), missing(part(1, 1, 2), true, width), strings.Repeat("1", 1000), strings.Repeat("0", 1000)} {
				wantError(t, packed(follows+behind), width, api.ErrLong)
			}
		}
		// one miss fewer: another one may follow
		s := of(1, many(api.MaxNacks-1, width)...)
		wantError(t, packed(bitsOf(s, true, width)), width, api.ErrShort)
		wantError(t, append([]byte{0x0F}, bytes.Repeat([]byte{0xFF}, 300)...), width, api.ErrLong)
	}
}

func TestReadPartsThatMayNotBe(t *testing.T) {
	for _, width := range widths {
		last := end(width)
		for _, c := range [][2]int{{1, 1}, {2, 1}, {last, 1}, {last, last}, {last, last - 1}, {300, 5}} {
			bad := part(2, c[0], c[1])
			wantError(t, written(of(1, bad), width), width, api.ErrForm)
			wantError(t, written(of(1, whole(1), part(1, 2, 3), bad), width), width, api.ErrForm)
			wantError(t, written(of(1, bad, whole(1)), width), width, api.ErrForm)
			at := api.MaxNacks - 1
			wantError(t, written(of(1, append(many(at, width), bad)...), width), width, api.ErrForm)
		}
		// a To of all ones is the end: each From may be
		wantRead(t, written(of(1, part(2, last, 0)), width), width, of(1, part(2, last, 0)), api.OK)
	}
}

func TestReadErrorsAsFarAsItIsRead(t *testing.T) {
	for _, width := range widths {
		bad := part(2, 5, 5)
		// a part that may not be, ahead of bits that are missing, of too many, and of what is left
		wantError(t, packed(bitsOf(of(1, bad), true, width)), width, api.ErrForm)
		wantError(t, packed(bitsOf(of(1, append([]Miss{bad}, make([]Miss, api.MaxNacks-1)...)...), true, width)), width, api.ErrForm)
		wantError(t, append(written(of(1, bad), width), 0xFF), width, api.ErrForm)
		// bits that are missing, where a part would not be
		b := written(of(1, bad), width)
		wantError(t, b[:len(b)-1], width, api.ErrShort)
		// of the last one that may be: its bits, then that another one follows, then its part
		l := append(many(api.MaxNacks-1, width), bad)
		wantError(t, packed(bitsOf(of(1, l...), true, width)), width, api.ErrLong)
		b = packed(bitsOf(of(1, l...), true, width))
		wantError(t, b[:len(b)-1], width, api.ErrShort)
	}
}

func TestReadWhatIsLeft(t *testing.T) {
	for _, width := range widths {
		for n := range api.MaxNacks + 1 {
			s := of(n, many(n, width)...)
			all := bitsOf(s, false, width)
			b := packed(all)
			wantRead(t, b, width, s, api.OK)
			for _, behind := range []string{"\x00", "\x01", "\x80", "\x00\x00", "\xff\xff"} {
				wantError(t, append(bytes.Clone(b), behind...), width, api.ErrForm)
			}
			for at := len(all); at < 8*len(b); at++ {
				c := bytes.Clone(b)
				c[at/8] |= 0x80 >> (at % 8)
				wantError(t, c, width, api.ErrForm)
			}
		}
		wantError(t, append(written(of(1), width), make([]byte, 100000)...), width, api.ErrForm)
	}
}

func TestReadOfAllShortBytes(t *testing.T) {
	for v := range 1 << 16 {
		for _, width := range widths {
			for _, behind := range []string{"", "\x00", "\x08", "\x12\x34", "\x08\x00\x00", "\x80\x10\x00\x00"} {
				b := append([]byte{byte(v >> 8), byte(v)}, behind...)
				s, e := read(b, width)
				wantRead(t, b, width, s, e)
			}
		}
	}
}

func TestReadOfAnyBytes(t *testing.T) {
	r := rand.New(rand.NewSource(11))
	met := map[api.Errno]int{}
	for range 40000 {
		width := widths[r.Intn(2)]
		b := changed(r, width)
		s, e := read(b, width)
		wantRead(t, b, width, s, e)
		met[e]++
		if e == api.OK {
			wantWrite(t, s, width, b, api.OK)
		}
	}
	for _, e := range []api.Errno{api.OK, api.ErrShort, api.ErrForm, api.ErrLong, api.ErrNone} {
		if met[e] < 10 {
			t.Errorf("%v was met %d times", e, met[e])
		}
	}
}

// changed is a status's bytes, some of them changed.
func changed(r *rand.Rand, width int) []byte {
	s := anyStatus(r, width)
	if r.Intn(4) == 0 {
		s.Misses = many(api.MaxNacks, width)
	}
	b := packed(bitsOf(s, r.Intn(4) == 0, width))
	for range r.Intn(4) {
		b[r.Intn(len(b))] ^= 1 << r.Intn(8)
	}
	return b[:len(b)-r.Intn(2)*r.Intn(len(b))]
}

// P11.3

func TestThereAndBack(t *testing.T) {
	r := rand.New(rand.NewSource(113))
	for range 5000 {
		width := widths[r.Intn(2)]
		wantRight(t, anyStatus(r, width), width)
	}
}

func TestInOneWayAlone(t *testing.T) {
	met := 0
	for v := range 1 << 20 {
		b := []byte{byte(v >> 16), byte(v >> 8), byte(v), byte(v % 2 * 8)}
		for _, width := range widths {
			for n := 2; n <= len(b); n++ {
				s, e := status.Read(b[:n], width)
				if e != api.OK {
					continue
				}
				met++
				if again, e := status.Write(s, width); e != api.OK || !bytes.Equal(again, b[:n]) {
					t.Fatalf("%x of %d is %v, which is %x", b[:n], width, s, again)
				}
			}
		}
	}
	if met == 0 {
		t.Error("none was met")
	}
}

// rules 3, 4, 5 and 7 of the document

func TestWhatIsHandedInStays(t *testing.T) {
	under := append(many(9, 10), whole(77), whole(78))
	was := append([]Miss(nil), under...)
	s := Status{Ack: 3, Misses: under[:9]}
	wantRight(t, s, 10)
	if !status.Same(of(0, under...), of(0, was...)) {
		t.Errorf("what was handed in is changed: %v", under)
	}
	b := append(written(s, 10), "xyz"...)
	c := bytes.Clone(b)
	wantRead(t, b[:len(b)-3], 10, s, api.OK)
	if !bytes.Equal(b, c) {
		t.Errorf("what was handed in is changed: %x", b)
	}
}

func TestWhatIsHandedOutIsNewMemory(t *testing.T) {
	for _, n := range []int{1, 2, 5, 7, api.MaxNacks} {
		s := of(3, many(n, 16)...)
		one, _ := status.Write(s, 16)
		two, _ := status.Write(s, 16)
		for i := range one {
			one[i] ^= 0xFF
		}
		if !bytes.Equal(two, written(s, 16)) {
			t.Errorf("Write shares its memory: %x", two)
		}
		if cap(two) != len(two) {
			t.Errorf("Write has room for %d behind", cap(two)-len(two))
		}
		got, _ := status.Read(two, 16)
		again, _ := status.Read(two, 16)
		for i := range got.Misses {
			got.Misses[i] = whole(1)
		}
		clear(two)
		if !equal(again, s) {
			t.Errorf("Read shares its memory: %v", again)
		}
		if l := again.Misses; cap(l) != len(l) {
			t.Errorf("Read has room for %d behind", cap(l)-len(l))
		}
	}
}

func TestTheSameAgain(t *testing.T) {
	s := of(7, many(20, 10)...)
	b := written(s, 10)
	for range 50 {
		wantRight(t, s, 10)
		wantError(t, b[:5], 10, api.ErrShort)
		for _, is := range both {
			wantError(t, packed(bitsOf(s, is, 10)+strings.Repeat("1", 1500)), 10, map[bool]api.Errno{true: api.ErrLong, false: api.ErrForm}[is])
		}
	}
}
