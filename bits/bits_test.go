package bits_test

import (
	"bytes"
	"math"
	"math/rand"
	"testing"

	"bowline/api"
	"bowline/bits"
)

// number is a number and how many bits it has.
type number struct {
	v uint64
	n int
}

// some is numbers of all widths, the same ones in each run.
func some(seed int64, many int) []number {
	r := rand.New(rand.NewSource(seed))
	l := make([]number, many)
	for i := range l {
		n := r.Intn(65)
		l[i] = number{r.Uint64() & below(n), n}
	}
	return l
}

// below is the greatest number of n bits.
func below(n int) uint64 {
	if n == 64 {
		return math.MaxUint64
	}
	return 1<<n - 1
}

// digits is a number's bits as a text, found in another way than the package does.
func digits(x number) string {
	b := make([]byte, x.n)
	for i := x.n - 1; i >= 0; i-- {
		b[i] = byte('0' + x.v%2)
		x.v /= 2
	}
	return string(b)
}

// packed is bits written as a text, as bytes.
func packed(text string) []byte {
	for len(text)%8 != 0 {
		text += "0"
	}
	var b []byte
	for i := 0; i < len(text); i += 8 {
		v := 0
		for _, c := range text[i : i+8] {
			v = 2*v + int(c-'0')
		}
		b = append(b, byte(v))
	}
	return b
}

func wantPut(t *testing.T, w *bits.Writer, v uint64, n int, want api.Errno) {
	t.Helper()
	if e := w.Put(v, n); e != want {
		t.Fatalf("Put(%d, %d): %v, want %v", v, n, e, want)
	}
}

func wantGet(t *testing.T, r *bits.Reader, n int, want uint64, e api.Errno) {
	t.Helper()
	if v, f := r.Get(n); v != want || f != e {
		t.Fatalf("Get(%d): %d %v, want %d %v", n, v, f, want, e)
	}
}

func wantRest(t *testing.T, r *bits.Reader, want []byte, e api.Errno) {
	t.Helper()
	if b, f := r.Rest(); !bytes.Equal(b, want) || f != e {
		t.Fatalf("Rest: %x %v, want %x %v", b, f, want, e)
	}
}

func wantBits(t *testing.T, w *bits.Writer, want string) {
	t.Helper()
	if w.Len() != len(want) || !bytes.Equal(w.Bytes(), packed(want)) {
		t.Fatalf("Len %d, Bytes %x, want %d, %x", w.Len(), w.Bytes(), len(want), packed(want))
	}
}

// P1.1

func TestNewIsWithoutBits(t *testing.T) {
	wantBits(t, bits.New(), "")
	a, b := bits.New(), bits.New()
	wantPut(t, a, 1, 1, api.OK)
	wantBits(t, a, "1")
	wantBits(t, b, "")
}

func TestExample(t *testing.T) {
	w := bits.New()
	wantPut(t, w, 5, 3, api.OK)
	wantPut(t, w, 1, 2, api.OK)
	wantBits(t, w, "10101")
	if !bytes.Equal(w.Bytes(), []byte{0xA8}) {
		t.Errorf("Bytes: %x", w.Bytes())
	}
}

func TestPutStandsBehind(t *testing.T) {
	w, want := bits.New(), ""
	for _, x := range some(1, 300) {
		wantPut(t, w, x.v, x.n, api.OK)
		want += digits(x)
		wantBits(t, w, want)
	}
}

func TestPutWidths(t *testing.T) {
	for n := range 65 {
		for _, ahead := range []string{"", "1", "0110101"} {
			w, want := bits.New(), ahead
			for _, c := range ahead {
				wantPut(t, w, uint64(c-'0'), 1, api.OK)
			}
			wantPut(t, w, below(n), n, api.OK)
			wantPut(t, w, 0, n, api.OK)
			want += digits(number{below(n), n}) + digits(number{0, n})
			if n < 64 {
				wantPut(t, w, below(n)+1, n, api.ErrArg)
				wantPut(t, w, math.MaxUint64, n, api.ErrArg)
			}
			wantBits(t, w, want)
		}
	}
}

func TestPutWrongWidths(t *testing.T) {
	w := bits.New()
	wantPut(t, w, 5, 3, api.OK)
	for _, n := range []int{-1, -8, -64, 65, 66, 128, 1 << 16, 1 << 32, math.MinInt, math.MaxInt} {
		wantPut(t, w, 0, n, api.ErrArg)
		wantPut(t, w, 1, n, api.ErrArg)
		wantPut(t, w, math.MaxUint64, n, api.ErrArg)
	}
	wantBits(t, w, "101")
}

func TestPutFull(t *testing.T) {
	w := bits.New()
	for range api.MaxBits/64 - 1 {
		wantPut(t, w, math.MaxUint64, 64, api.OK)
	}
	wantPut(t, w, 0, 63, api.OK)
	for n := 2; n <= 64; n++ {
		wantPut(t, w, 0, n, api.ErrFull)
	}
	if w.Len() != api.MaxBits-1 {
		t.Fatalf("Len: %d", w.Len())
	}
	wantPut(t, w, 1, 1, api.OK)
	want := bytes.Repeat([]byte{0xFF}, api.MaxBits/8)
	copy(want[len(want)-8:], []byte{0, 0, 0, 0, 0, 0, 0, 1})
	wantPut(t, w, 0, 1, api.ErrFull)
	wantPut(t, w, 0, 64, api.ErrFull)
	wantPut(t, w, 2, 1, api.ErrArg)
	wantPut(t, w, 0, 65, api.ErrArg)
	wantPut(t, w, 0, -1, api.ErrArg)
	wantPut(t, w, 0, 0, api.OK)
	if w.Len() != api.MaxBits || !bytes.Equal(w.Bytes(), want) {
		t.Errorf("Len %d, the bytes as they should be: %v", w.Len(), bytes.Equal(w.Bytes(), want))
	}
}

func TestPutFullAtOnce(t *testing.T) {
	w := bits.New()
	for range api.MaxBits / 64 {
		wantPut(t, w, 1, 64, api.OK)
	}
	wantPut(t, w, 1, 1, api.ErrFull)
	if w.Len() != api.MaxBits || len(w.Bytes()) != api.MaxBits/8 {
		t.Errorf("Len %d, bytes %d", w.Len(), len(w.Bytes()))
	}
}

func TestNilWriter(t *testing.T) {
	var w *bits.Writer
	wantPut(t, w, 1, 1, api.ErrNil)
	wantPut(t, w, 0, 0, api.ErrNil)
	wantPut(t, w, 2, 1, api.ErrNil)
	wantPut(t, w, 0, -1, api.ErrNil)
	wantPut(t, w, 0, 65, api.ErrNil)
	wantBits(t, w, "")
}

func TestBytesAreNewMemory(t *testing.T) {
	w := bits.New()
	wantPut(t, w, 0xABC, 12, api.OK)
	first, second := w.Bytes(), w.Bytes()
	for i := range first {
		first[i] = 0xFF
	}
	_ = append(first[:1], 9, 9)
	if !bytes.Equal(second, []byte{0xAB, 0xC0}) {
		t.Errorf("Bytes shares its memory: %x", second)
	}
	wantBits(t, w, "101010111100")
	wantPut(t, w, 0xD, 4, api.OK)
	wantBits(t, w, "1010101111001101")
	if !bytes.Equal(second, []byte{0xAB, 0xC0}) {
		t.Errorf("Put changes what was handed out: %x", second)
	}
}

// P1.2

func TestReadExample(t *testing.T) {
	r := bits.Read([]byte{0xA8, 7})
	wantGet(t, r, 3, 5, api.OK)
	wantRest(t, r, nil, api.ErrForm)
	if r.Left() != 13 {
		t.Errorf("Left: %d", r.Left())
	}
	wantGet(t, r, 2, 1, api.OK)
	wantRest(t, r, []byte{7}, api.OK)
	if r.Left() != 0 {
		t.Errorf("Left: %d", r.Left())
	}
}

func TestReadNothing(t *testing.T) {
	for _, b := range [][]byte{nil, {}} {
		r := bits.Read(b)
		if r.Left() != 0 {
			t.Errorf("Left: %d", r.Left())
		}
		wantGet(t, r, 1, 0, api.ErrShort)
		wantGet(t, r, 0, 0, api.OK)
		wantRest(t, r, nil, api.OK)
		wantRest(t, r, nil, api.OK)
	}
}

func TestReadTooMany(t *testing.T) {
	most := api.MaxBits / 8
	for _, many := range []int{most - 1, most, most + 1, 3 * most} {
		b := make([]byte, many)
		for i := range b {
			b[i] = byte(i*7 + i>>8)
		}
		want := b[:min(many, most)]
		r := bits.Read(b)
		if r.Left() != 8*len(want) {
			t.Fatalf("of %d bytes: Left %d", many, r.Left())
		}
		wantGet(t, r, 8, uint64(want[0]), api.OK)
		wantRest(t, r, want[1:], api.OK)
		r = bits.Read(b)
		for i := range want {
			wantGet(t, r, 8, uint64(want[i]), api.OK)
		}
		wantGet(t, r, 1, 0, api.ErrShort)
	}
}

func TestGetAtEachPlace(t *testing.T) {
	b := []byte{0x9E, 0x37, 0x79, 0xB9, 0x7F, 0x4A, 0x7C, 0x15, 0xF3, 0x9C}
	text := ""
	for _, x := range b {
		text += digits(number{uint64(x), 8})
	}
	for at := range len(text) + 1 {
		for n := range 65 {
			r := bits.Read(b)
			wantGet(t, r, at%64, get(text[:at%64]), api.OK)
			wantGet(t, r, at-at%64, get(text[at%64:at]), api.OK)
			if at+n > len(text) {
				wantGet(t, r, n, 0, api.ErrShort)
				wantLeft(t, r, len(text)-at)
				continue
			}
			wantGet(t, r, n, get(text[at:at+n]), api.OK)
			wantLeft(t, r, len(text)-at-n)
		}
	}
}

// get is the number of bits written as a text.
func get(text string) uint64 {
	var v uint64
	for _, c := range text {
		v = 2*v + uint64(c-'0')
	}
	return v
}

func wantLeft(t *testing.T, r *bits.Reader, want int) {
	t.Helper()
	if r.Left() != want {
		t.Fatalf("Left: %d, want %d", r.Left(), want)
	}
}

func TestGetWrong(t *testing.T) {
	r := bits.Read([]byte{0x12, 0x34})
	for _, n := range []int{-1, -8, 65, 66, 128, 1 << 32, math.MinInt, math.MaxInt} {
		wantGet(t, r, n, 0, api.ErrArg)
	}
	for n := 17; n <= 64; n++ {
		wantGet(t, r, n, 0, api.ErrShort)
	}
	wantLeft(t, r, 16)
	wantGet(t, r, 4, 1, api.OK)
	wantGet(t, r, 13, 0, api.ErrShort)
	wantGet(t, r, 65, 0, api.ErrArg)
	wantGet(t, r, -1, 0, api.ErrArg)
	wantLeft(t, r, 12)
	wantGet(t, r, 12, 0x234, api.OK)
	wantGet(t, r, 0, 0, api.OK)
	wantGet(t, r, 1, 0, api.ErrShort)
}

func TestRestAtEachPlace(t *testing.T) {
	for at := range 25 {
		for one := range 24 {
			b := []byte{0, 0, 0}
			b[one/8] = 0x80 >> (one % 8)
			r := bits.Read(b)
			if _, e := r.Get(at); e != api.OK {
				t.Fatalf("Get(%d): %v", at, e)
			}
			whole := (at + 7) / 8
			if one >= at && one < 8*whole {
				wantRest(t, r, nil, api.ErrForm)
				wantLeft(t, r, 24-at)
				wantRest(t, r, nil, api.ErrForm)
				wantGet(t, r, one-at+1, 1, api.OK)
				continue
			}
			wantRest(t, r, b[whole:], api.OK)
			wantLeft(t, r, 0)
			wantGet(t, r, 1, 0, api.ErrShort)
			wantRest(t, r, nil, api.OK)
		}
	}
}

func TestNilReader(t *testing.T) {
	var r *bits.Reader
	for _, n := range []int{0, 1, 64, 65, -1} {
		wantGet(t, r, n, 0, api.ErrNil)
	}
	wantLeft(t, r, 0)
	wantRest(t, r, nil, api.ErrNil)
}

func TestReadKeepsNothing(t *testing.T) {
	under := []byte{1, 2, 3, 4, 5, 6}
	r := bits.Read(under[:4])
	wantLeft(t, r, 32)
	wantGet(t, r, 8, 1, api.OK)
	for i := range under {
		under[i] = 0xEE
	}
	wantGet(t, r, 8, 2, api.OK)
	rest, e := r.Rest()
	if !bytes.Equal(rest, []byte{3, 4}) || e != api.OK {
		t.Fatalf("Rest: %x %v", rest, e)
	}
	rest[0] = 0
	_ = append(rest, 9)
	if !bytes.Equal(under, bytes.Repeat([]byte{0xEE}, 6)) {
		t.Errorf("what was handed in is changed: %x", under)
	}
}

func TestRestIsNewMemory(t *testing.T) {
	b := []byte{1, 2, 3}
	rest, _ := bits.Read(b).Rest()
	for i := range rest {
		rest[i] = 0
	}
	if !bytes.Equal(b, []byte{1, 2, 3}) {
		t.Errorf("what was handed in is changed: %x", b)
	}
}

// P1.3

func TestPutIsGot(t *testing.T) {
	for seed := range int64(40) {
		l := some(seed, 50)
		w, all := bits.New(), 0
		for _, x := range l {
			wantPut(t, w, x.v, x.n, api.OK)
			all += x.n
		}
		r := bits.Read(w.Bytes())
		for _, x := range l {
			wantGet(t, r, x.n, x.v, api.OK)
			all -= x.n
			if r.Left() < all || r.Left() > all+7 {
				t.Fatalf("Left: %d, want %d and what fills up", r.Left(), all)
			}
		}
		wantRest(t, r, nil, api.OK)
	}
}

// P1.4

func TestTwoPartsAreOne(t *testing.T) {
	for _, x := range some(99, 200) {
		for low := range x.n + 1 {
			high, rest := uint64(0), x.v
			if low < 64 {
				high, rest = x.v>>low, x.v&below(low)
			}
			once, twice := bits.New(), bits.New()
			wantPut(t, once, 1, 3, api.OK)
			wantPut(t, twice, 1, 3, api.OK)
			wantPut(t, once, x.v, x.n, api.OK)
			wantPut(t, twice, high, x.n-low, api.OK)
			wantPut(t, twice, rest, low, api.OK)
			if once.Len() != twice.Len() || !bytes.Equal(once.Bytes(), twice.Bytes()) {
				t.Fatalf("%d in %d and %d bits: %x, at once %x", x.v, x.n-low, low, twice.Bytes(), once.Bytes())
			}
			r := bits.Read(once.Bytes())
			wantGet(t, r, 3, 1, api.OK)
			wantGet(t, r, x.n-low, high, api.OK)
			wantGet(t, r, low, rest, api.OK)
		}
	}
}

// P1 of the rules

func TestObjectsThatNoCallMade(t *testing.T) {
	for _, n := range []int{math.MinInt, -1, 0, 1, 8, 64, 65, math.MaxInt} {
		w, r := &bits.Writer{}, &bits.Reader{}
		for range 3 {
			w.Put(0, n)
			w.Put(math.MaxUint64, n)
			w.Len()
			w.Bytes()
			r.Left()
			r.Get(n)
			r.Rest()
		}
	}
}
