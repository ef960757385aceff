package lens_test

import (
	"bytes"
	"math"
	"math/rand"
	"slices"
	"strconv"
	"strings"
	"testing"

	"bowline/api"
	"bowline/lens"
)

const most = api.MaxFields - 1

var (
	widths = []int{11, 15}
	// wrong is widths that may not be.
	wrong = []int{0, 1, 8, 10, 12, 13, 14, 16, 64, -1, -11, -15, math.MinInt, math.MaxInt, 11 + 1<<32}
)

// digits is a number's bits as a text.
func digits(v, n int) string {
	text := strconv.FormatInt(int64(v), 2)
	return strings.Repeat("0", n-len(text)) + text
}

// packed is bits written as a text, as bytes.
func packed(text string) []byte {
	for len(text)%8 != 0 {
		text += "0"
	}
	b := make([]byte, len(text)/8)
	for i := range b {
		v, _ := strconv.ParseUint(text[8*i:8*i+8], 2, 8)
		b[i] = byte(v)
	}
	return b
}

// text is bytes' bits.
func text(b []byte) string {
	var all strings.Builder
	for _, x := range b {
		all.WriteString(digits(int(x), 8))
	}
	return all.String()
}

// written is lengths' bits, whatever they are; the last one says that another follows, if more.
func written(l []int, width int, more bool) string {
	all := ""
	for i, length := range l {
		if i < len(l)-1 || more {
			all += "1"
		} else {
			all += "0"
		}
		all += digits(length, width)
	}
	return all
}

// read is what Read asks for, found in another way than the package does.
func read(b []byte, width int) ([]int, int, api.Errno) {
	bits, at := text(b), 0
	var l []int
	for {
		if len(bits)-at < 1+width {
			return nil, 0, api.ErrShort
		}
		v, _ := strconv.ParseInt(bits[at+1:at+1+width], 2, 64)
		if v == 0 {
			return nil, 0, api.ErrForm
		}
		l = append(l, int(v))
		more := bits[at] == '1'
		at += 1 + width
		if more && len(l) == most {
			return nil, 0, api.ErrLong
		}
		if !more {
			break
		}
	}
	for ; at%8 != 0; at++ {
		if bits[at] == '1' {
			return nil, 0, api.ErrForm
		}
	}
	return l, at / 8, api.OK
}

// some is so many lengths of a width, the same ones for each seed.
func some(seed int64, many, width int) []int {
	r := rand.New(rand.NewSource(seed))
	l := make([]int, many)
	for i := range l {
		l[i] = 1 + r.Intn(1<<width-1)
	}
	return l
}

// alike is so many times the same length.
func alike(length, many int) []int {
	return slices.Repeat([]int{length}, many)
}

func wantWrite(t *testing.T, l []int, width int, want []byte, e api.Errno) {
	t.Helper()
	if b, f := lens.Write(l, width); !bytes.Equal(b, want) || f != e {
		t.Fatalf("Write(%v, %d): %x %v, want %x %v", l, width, b, f, want, e)
	}
}

func wantRead(t *testing.T, b []byte, width int, want []int, many int, e api.Errno) {
	t.Helper()
	if l, n, f := lens.Read(b, width); !slices.Equal(l, want) || n != many || f != e {
		t.Fatalf("Read(%x, %d): %v %d %v, want %v %d %v", b, width, l, n, f, want, many, e)
	}
}

// wantAsModel holds Read against the model.
func wantAsModel(t *testing.T, b []byte, width int) {
	t.Helper()
	l, n, e := read(b, width)
	wantRead(t, b, width, l, n, e)
}

// P8.1

func TestExample(t *testing.T) {
	wantWrite(t, []int{5}, 11, []byte{0, 0x50}, api.OK)
	wantRead(t, []byte{0, 0x50}, 11, []int{5}, 2, api.OK)
}

func TestSize(t *testing.T) {
	narrow := []int{2, 3, 5, 6, 8, 9, 11, 12, 14, 15, 17, 18, 20, 21, 23, 24, 26, 27, 29, 30, 32, 33, 35}
	for n := 1; n <= most; n++ {
		if size := lens.Size(n, 11); size != narrow[n-1] {
			t.Errorf("Size(%d, 11): %d, want %d", n, size, narrow[n-1])
		}
		if size := lens.Size(n, 15); size != 2*n {
			t.Errorf("Size(%d, 15): %d, want %d", n, size, 2*n)
		}
	}
}

func TestSizeOfNone(t *testing.T) {
	for _, n := range []int{0, -1, -24, most + 1, most + 2, 1 << 20, math.MinInt, math.MaxInt} {
		for _, width := range append(slices.Clone(widths), wrong...) {
			if size := lens.Size(n, width); size != 0 {
				t.Errorf("Size(%d, %d): %d", n, width, size)
			}
		}
	}
	for n := 1; n <= most; n++ {
		for _, width := range wrong {
			if size := lens.Size(n, width); size != 0 {
				t.Errorf("Size(%d, %d): %d", n, width, size)
			}
		}
	}
}

func TestWrite(t *testing.T) {
	for _, c := range []struct {
		l     []int
		width int
		want  []byte
	}{
		{[]int{1}, 11, []byte{0x00, 0x10}},
		{[]int{2047}, 11, []byte{0x7F, 0xF0}},
		{[]int{1, 2}, 11, []byte{0x80, 0x10, 0x02}},
		{[]int{2047, 2047}, 11, []byte{0xFF, 0xF7, 0xFF}},
		{[]int{1, 2, 3}, 11, []byte{0x80, 0x18, 0x02, 0x00, 0x30}},
		{[]int{1}, 15, []byte{0x00, 0x01}},
		{[]int{32767}, 15, []byte{0x7F, 0xFF}},
		{[]int{1, 0x1234}, 15, []byte{0x80, 0x01, 0x12, 0x34}},
	} {
		wantWrite(t, c.l, c.width, c.want, api.OK)
	}
}

func TestWriteOfAllMany(t *testing.T) {
	for _, width := range widths {
		for n := 1; n <= most; n++ {
			for _, l := range [][]int{alike(1, n), alike(1<<width-1, n), some(int64(n), n, width)} {
				b := packed(written(l, width, false))
				wantWrite(t, l, width, b, api.OK)
				if len(b) != lens.Size(n, width) {
					t.Errorf("%d bytes of %d lengths, Size %d", len(b), n, lens.Size(n, width))
				}
			}
		}
	}
}

func TestWriteErrors(t *testing.T) {
	for _, width := range wrong {
		for _, l := range [][]int{nil, {}, {5}, {0}, {-1}, alike(5, most+1), alike(0, most+1)} {
			wantWrite(t, l, width, nil, api.ErrKind)
		}
	}
	for _, width := range widths {
		wantWrite(t, nil, width, nil, api.ErrNone)
		wantWrite(t, []int{}, width, nil, api.ErrNone)
		for _, n := range []int{most + 1, most + 2, 5000} {
			wantWrite(t, alike(5, n), width, nil, api.ErrLong)
			wantWrite(t, alike(0, n), width, nil, api.ErrLong)
			wantWrite(t, alike(-1, n), width, nil, api.ErrLong)
		}
	}
}

func TestWriteWrongLengths(t *testing.T) {
	for _, width := range widths {
		for _, bad := range []int{0, -1, -2047, 1 << width, 1<<width + 1, 1 << 16, 1 << 32, 1<<32 + 5, math.MinInt, math.MaxInt} {
			for at := range most {
				l := alike(5, most)
				l[at] = bad
				wantWrite(t, l, width, nil, api.ErrArg)
				wantWrite(t, l[at:at+1], width, nil, api.ErrArg)
			}
		}
	}
	wantWrite(t, []int{2048}, 11, nil, api.ErrArg)
	wantWrite(t, []int{2048}, 15, []byte{0x08, 0}, api.OK)
}

func TestReadWrongWidth(t *testing.T) {
	for _, width := range wrong {
		for _, b := range [][]byte{nil, {}, {0}, {0, 0x50}, {0, 0}, bytes.Repeat([]byte{0xFF}, 100)} {
			wantRead(t, b, width, nil, 0, api.ErrKind)
		}
	}
}

func TestReadLeavesWhatIsBehind(t *testing.T) {
	for _, width := range widths {
		for n := 1; n <= most; n++ {
			l := some(int64(n), n, width)
			b := packed(written(l, width, false))
			size := len(b)
			wantRead(t, b, width, l, size, api.OK)
			for _, behind := range []string{"\x00", "\xFF", "\x00\x00\x00", "\xFF\xFF\xFF", strings.Repeat("z", 9000)} {
				wantRead(t, append(bytes.Clone(b), behind...), width, l, size, api.OK)
			}
		}
	}
}

func TestReadShort(t *testing.T) {
	for _, width := range widths {
		for n := 1; n <= most; n++ {
			b := packed(written(some(int64(n), n, width), width, false))
			for many := range b {
				wantRead(t, b[:many], width, nil, 0, api.ErrShort)
			}
		}
		wantRead(t, nil, width, nil, 0, api.ErrShort)
		wantRead(t, []byte{0}, width, nil, 0, api.ErrShort)
	}
	// the second one's bits end within the third byte, that of the width 15 at its end
	wantRead(t, []byte{0x80, 0x10, 0x02}, 11, []int{1, 2}, 3, api.OK)
	wantRead(t, []byte{0x80, 0x10, 0x02}, 15, nil, 0, api.ErrShort)
}

func TestReadNought(t *testing.T) {
	for _, width := range widths {
		for n := 1; n <= most; n++ {
			for at := range n {
				l := some(int64(n), n, width)
				l[at] = 0
				for _, more := range []bool{false, true} {
					wantRead(t, packed(written(l, width, more)), width, nil, 0, api.ErrForm)
				}
			}
		}
	}
}

func TestReadTooMany(t *testing.T) {
	for _, width := range widths {
		for _, n := range []int{most, most + 1, most + 5} {
			l := some(int64(n), n, width)
			wantRead(t, packed(written(l, width, true)), width, nil, 0, api.ErrLong)
			if n > most {
				wantRead(t, packed(written(l, width, false)), width, nil, 0, api.ErrLong)
				// what is wrong behind the last one that may be is not met
				l[most] = 0
				wantRead(t, packed(written(l, width, false)), width, nil, 0, api.ErrLong)
			}
		}
		wantRead(t, bytes.Repeat([]byte{0xFF}, 9000), width, nil, 0, api.ErrLong)
	}
}

// TestReadFirstThatIsMet has two things that are wrong, one behind the other.
func TestReadFirstThatIsMet(t *testing.T) {
	for _, width := range widths {
		l := alike(5, most)
		// the last one is a nought that says that another follows
		l[most-1] = 0
		wantRead(t, packed(written(l, width, true)), width, nil, 0, api.ErrForm)
		// the last one's bits are missing, and it would say that another follows
		l[most-1] = 5
		b := packed(written(l, width, true))
		cut := most*(1+width)/8 - 1
		wantRead(t, b[:cut], width, nil, 0, api.ErrShort)
		// a nought, and nothing behind it
		wantRead(t, packed(written([]int{0}, width, true)), width, nil, 0, api.ErrForm)
		// a nought whose bits are not all there
		wantRead(t, []byte{0x80}, width, nil, 0, api.ErrShort)
		// a right one, and then too few bits for a nought
		wantRead(t, append(packed(written([]int{5}, width, true)), 0)[:2], width, nil, 0, api.ErrShort)
	}
	// the last one says that another follows, and what would fill up is not noughts
	b := packed(written(alike(5, most), 11, true))
	b[len(b)-1] |= 0x0F
	wantRead(t, b, 11, nil, 0, api.ErrLong)
	// a nought ahead of what fills up and is not noughts
	wantRead(t, []byte{0x00, 0x01}, 11, nil, 0, api.ErrForm)
}

func TestReadWhatFillsUp(t *testing.T) {
	// only so many lengths of the width 11 end within a byte
	for n := 1; n <= most; n += 2 {
		l := some(int64(n), n, 11)
		b := packed(written(l, 11, false))
		for fill := range 16 {
			c := bytes.Clone(b)
			c[len(c)-1] |= byte(fill)
			if fill == 0 {
				wantRead(t, c, 11, l, len(b), api.OK)
			} else {
				wantRead(t, c, 11, nil, 0, api.ErrForm)
			}
		}
	}
}

func TestReadOfAllShortBytes(t *testing.T) {
	for v := range 1 << 16 {
		b := []byte{byte(v >> 8), byte(v)}
		for _, width := range widths {
			wantAsModel(t, b, width)
			wantAsModel(t, append(b, 0), width)
			wantAsModel(t, append(b, 0x70, 0x20), width)
		}
	}
}

func TestReadOfAnyBytes(t *testing.T) {
	r := rand.New(rand.NewSource(8))
	met := map[api.Errno]int{}
	for range 20000 {
		b := make([]byte, r.Intn(60))
		r.Read(b)
		width := widths[r.Intn(2)]
		// most say that another one follows, so that many are read
		for i := 0; i < 8*len(b); i += 1 + width {
			if r.Intn(20) > 0 {
				b[i/8] |= 0x80 >> (i % 8)
			}
		}
		wantAsModel(t, b, width)
		_, _, e := read(b, width)
		met[e]++
	}
	for _, e := range []api.Errno{api.OK, api.ErrShort, api.ErrForm, api.ErrLong} {
		if met[e] < 10 {
			t.Errorf("%v was met %d times", e, met[e])
		}
	}
}

// P8.2

func TestThereAndBack(t *testing.T) {
	for _, width := range widths {
		for length := 1; length < 1<<width; length++ {
			wantThereAndBack(t, []int{length}, width)
		}
		for seed := range int64(500) {
			wantThereAndBack(t, some(seed, 1+int(seed)%most, width), width)
		}
		for n := 1; n <= most; n++ {
			wantThereAndBack(t, alike(1, n), width)
			wantThereAndBack(t, alike(1<<width-1, n), width)
		}
	}
}

func wantThereAndBack(t *testing.T, l []int, width int) {
	t.Helper()
	b, e := lens.Write(l, width)
	if e != api.OK {
		t.Fatalf("Write(%v, %d): %v", l, width, e)
	}
	wantRead(t, b, width, l, len(b), api.OK)
	if len(b) != lens.Size(len(l), width) {
		t.Fatalf("%d bytes, Size %d", len(b), lens.Size(len(l), width))
	}
}

func TestBackAndThere(t *testing.T) {
	for v := range 1 << 16 {
		for _, width := range widths {
			b := []byte{byte(v >> 8), byte(v)}
			if l, n, e := lens.Read(b, width); e == api.OK {
				wantWrite(t, l, width, b[:n], api.OK)
			}
		}
	}
}

// rules 4 and 5 of the document

func TestWhatIsHandedInStays(t *testing.T) {
	under := []int{5, 6, 7, 8}
	wantWrite(t, under[:2], 11, []byte{0x80, 0x50, 0x06}, api.OK)
	if !slices.Equal(under, []int{5, 6, 7, 8}) {
		t.Errorf("what was handed in is changed: %v", under)
	}
	// what lies behind the length is not read
	b := []byte{0x80, 0x10, 0x02, 0xFF}
	wantRead(t, b[:2], 11, nil, 0, api.ErrShort)
	wantRead(t, b[:3], 11, []int{1, 2}, 3, api.OK)
	if !bytes.Equal(b, []byte{0x80, 0x10, 0x02, 0xFF}) {
		t.Errorf("what was handed in is changed: %x", b)
	}
}

func TestWhatIsHandedOutIsNewMemory(t *testing.T) {
	l := []int{1, 2, 3}
	first, _ := lens.Write(l, 11)
	second, _ := lens.Write(l, 11)
	for i := range first {
		first[i] = 0xFF
	}
	if !bytes.Equal(second, []byte{0x80, 0x18, 0x02, 0x00, 0x30}) {
		t.Errorf("Write shares its memory: %x", second)
	}
	one, _, _ := lens.Read(second, 11)
	two, _, _ := lens.Read(second, 11)
	_ = append(one, 9)
	for i := range one {
		one[i] = 0
	}
	if !slices.Equal(two, l) {
		t.Errorf("Read shares its memory: %v", two)
	}
	if cap(two) != len(two) {
		t.Errorf("there is room for %d behind", cap(two)-len(two))
	}
}
