package points_test

import (
	"bytes"
	"math"
	"math/rand"
	"slices"
	"testing"

	"bowline/api"
	"bowline/points"
)

const (
	greatest = 1000
	most     = 100000
)

// four is the four points, in the order of their two bits.
var four = []complex128{1 + 1i, 1 - 1i, -1 + 1i, -1 - 1i}

var (
	noNumber = math.NaN()
	endless  = math.Inf(1)
)

// odd is points with parts that are no whole numbers.
var odd = []complex128{
	complex(noNumber, noNumber), complex(noNumber, 1), complex(1, noNumber), complex(endless, 1), complex(1, -endless),
	complex(endless, noNumber), complex(-endless, endless), complex(0.5, 1), complex(1, -0.5), complex(math.Nextafter(1, 2), 1),
	complex(-1, math.Nextafter(-1, 0)), complex(math.SmallestNonzeroFloat64, 1),
}

// whole is so many points of whole parts, the same ones for each seed.
func whole(seed int64, many int) []complex128 {
	r := rand.New(rand.NewSource(seed))
	l := make([]complex128, many)
	for i := range l {
		l[i] = complex(float64(r.Intn(2*greatest+1)-greatest), float64(r.Intn(2*greatest+1)-greatest))
	}
	return l
}

// allBytes is each byte once.
func allBytes() []byte {
	b := make([]byte, 256)
	for i := range b {
		b[i] = byte(i)
	}
	return b
}

// turnings is quarters near and far from none.
var turnings = []int{
	0, 1, 2, 3, 4, 5, 6, 7, 8, 1001, 1 << 40, math.MaxInt - 2, math.MaxInt - 1, math.MaxInt,
	-1, -2, -3, -4, -5, -6, -7, -8, -1003, -1 << 40, math.MinInt + 2, math.MinInt + 1, math.MinInt,
}

func wantPoints(t *testing.T, what string, l, want []complex128) {
	t.Helper()
	if !slices.Equal(l, want) {
		t.Fatalf("%s: %v, want %v", what, l, want)
	}
}

func wantBack(t *testing.T, l []complex128, want []byte, e api.Errno) {
	t.Helper()
	if b, f := points.Back(l); !bytes.Equal(b, want) || f != e {
		t.Fatalf("Back(%v): %x %v, want %x %v", l, b, f, want, e)
	}
}

func wantErrors(t *testing.T, a, b []complex128, want int, e api.Errno) {
	t.Helper()
	if n, f := points.Errors(a, b); n != want || f != e {
		t.Fatalf("Errors(%v, %v): %d %v, want %d %v", a, b, n, f, want, e)
	}
}

func wantLength(t *testing.T, l []complex128, want int, e api.Errno) {
	t.Helper()
	if n, f := points.Length(l); n != want || f != e {
		t.Fatalf("Length of %d: %d %v, want %d %v", len(l), n, f, want, e)
	}
}

func wantMix(t *testing.T, a, b, want []complex128, e api.Errno) {
	t.Helper()
	if l, f := points.Mix(a, b); !slices.Equal(l, want) || f != e {
		t.Fatalf("Mix(%v, %v): %v %v, want %v %v", a, b, l, f, want, e)
	}
}

// same tells whether parts are alike, those that are no number too.
func same(a, b float64) bool { return a == b || a != a && b != b }

func samePoints(a, b []complex128) bool {
	return slices.EqualFunc(a, b, func(p, q complex128) bool {
		return same(real(p), real(q)) && same(imag(p), imag(q))
	})
}

// P6.1

func TestOf(t *testing.T) {
	wantPoints(t, "Of(1B)", points.Of([]byte{0x1B}), four)
	wantPoints(t, "Of(E4)", points.Of([]byte{0xE4}), []complex128{-1 - 1i, -1 + 1i, 1 - 1i, 1 + 1i})
	wantPoints(t, "Of(00 FF)", points.Of([]byte{0, 0xFF}), []complex128{1 + 1i, 1 + 1i, 1 + 1i, 1 + 1i, -1 - 1i, -1 - 1i, -1 - 1i, -1 - 1i})
	wantPoints(t, "Of nil", points.Of(nil), nil)
	wantPoints(t, "Of nothing", points.Of([]byte{}), nil)
	for v := range 256 {
		want := []complex128{four[v/64], four[v/16%4], four[v/4%4], four[v%4]}
		wantPoints(t, "Of", points.Of([]byte{byte(v)}), want)
	}
}

func TestOfBytesOneBehindTheOther(t *testing.T) {
	b := allBytes()
	l := points.Of(b)
	if len(l) != 4*len(b) {
		t.Fatalf("Of: %d points", len(l))
	}
	for i := range b {
		wantPoints(t, "Of", l[4*i:4*i+4], points.Of(b[i:i+1]))
	}
}

func TestTurn(t *testing.T) {
	l := []complex128{1 + 1i, 3 - 5i, -2, 7i, 0, complex(-greatest, greatest)}
	quarter := []complex128{-1 + 1i, 5 + 3i, -2i, -7, 0, complex(-greatest, -greatest)}
	half := []complex128{-1 - 1i, -3 + 5i, 2, -7i, 0, complex(greatest, -greatest)}
	most := []complex128{1 - 1i, -5 - 3i, 2i, 7, 0, complex(greatest, greatest)}
	for k := -8; k <= 8; k += 4 {
		wantPoints(t, "Turn by none", points.Turn(l, k), l)
		wantPoints(t, "Turn by a quarter", points.Turn(l, k+1), quarter)
		wantPoints(t, "Turn by a half", points.Turn(l, k+2), half)
		wantPoints(t, "Turn by three quarters", points.Turn(l, k+3), most)
	}
	for _, k := range turnings {
		wantPoints(t, "Turn of nil", points.Turn(nil, k), nil)
		wantPoints(t, "Turn of nothing", points.Turn([]complex128{}, k), nil)
	}
}

func TestTurnIsMultiplying(t *testing.T) {
	l := whole(1, 50)
	forth, back := slices.Clone(l), slices.Clone(l)
	for k := range 13 {
		wantPoints(t, "Turn", points.Turn(l, k), forth)
		wantPoints(t, "Turn back", points.Turn(l, -k), back)
		for i := range l {
			forth[i] *= 1i
			back[i] *= -1i
		}
	}
}

func TestTurnByVeryMany(t *testing.T) {
	l := whole(2, 5)
	for k, want := range map[int]int{
		math.MaxInt: 3, math.MaxInt - 3: 0, math.MaxInt - 2: 1, math.MinInt: 0, math.MinInt + 1: 1, math.MinInt + 2: 2, math.MinInt + 3: 3, 1<<40 + 2: 2, -1<<40 - 1: 3,
	} {
		wantPoints(t, "Turn", points.Turn(l, k), points.Turn(l, want))
	}
}

func TestNear(t *testing.T) {
	up, down := math.SmallestNonzeroFloat64, -math.SmallestNonzeroFloat64
	nought := math.Copysign(0, -1)
	for _, c := range []struct{ p, want complex128 }{
		{1 + 1i, 1 + 1i}, {1 - 1i, 1 - 1i}, {-1 + 1i, -1 + 1i}, {-1 - 1i, -1 - 1i},
		{0, 1 + 1i}, {complex(nought, nought), 1 + 1i}, {complex(nought, -2), 1 - 1i}, {complex(-2, nought), -1 + 1i},
		{5 - 7i, 1 - 1i}, {-1000 + 3i, -1 + 1i}, {-2i, 1 - 1i}, {-3, -1 + 1i},
		{complex(up, up), 1 + 1i}, {complex(up, down), 1 - 1i}, {complex(down, up), -1 + 1i}, {complex(down, down), -1 - 1i},
		{complex(math.MaxFloat64, -math.MaxFloat64), 1 - 1i}, {complex(-0.3, 0.3), -1 + 1i},
		{complex(endless, -endless), 1 - 1i}, {complex(-endless, endless), -1 + 1i},
		{complex(noNumber, noNumber), 1 + 1i}, {complex(noNumber, -4), 1 - 1i}, {complex(noNumber, 4), 1 + 1i},
		{complex(-4, noNumber), -1 + 1i}, {complex(4, noNumber), 1 + 1i}, {complex(noNumber, -endless), 1 - 1i},
	} {
		if p := points.Near(c.p); p != c.want {
			t.Errorf("Near(%v): %v, want %v", c.p, p, c.want)
		}
	}
}

// distance is the square of how far points are from each other.
func distance(p, q complex128) float64 {
	d := p - q
	return real(d)*real(d) + imag(d)*imag(d)
}

func TestNearIsNearest(t *testing.T) {
	for _, p := range whole(3, 400) {
		near := points.Near(p)
		if !slices.Contains(four, near) {
			t.Fatalf("Near(%v): %v", p, near)
		}
		for _, q := range four {
			if distance(p, q) < distance(p, near) {
				t.Fatalf("Near(%v): %v, but %v is nearer", p, near, q)
			}
		}
	}
}

func TestBack(t *testing.T) {
	wantBack(t, four, []byte{0x1B}, api.OK)
	wantBack(t, nil, nil, api.OK)
	wantBack(t, []complex128{}, nil, api.OK)
	for v := range 256 {
		wantBack(t, []complex128{four[v/64], four[v/16%4], four[v/4%4], four[v%4]}, []byte{byte(v)}, api.OK)
	}
	wantBack(t, append(slices.Clone(four), -1-1i, -1-1i, 1+1i, 1-1i), []byte{0x1B, 0xF1}, api.OK)
}

func TestBackOfNoWholeFour(t *testing.T) {
	l := points.Of([]byte("abc"))
	for many := range len(l) + 1 {
		if many%4 != 0 {
			wantBack(t, l[:many], nil, api.ErrForm)
		} else {
			wantBack(t, l[:many], []byte("abc")[:many/4], api.OK)
		}
	}
}

func TestBackOfNoneOfTheFour(t *testing.T) {
	bad := append([]complex128{0, 1, -1, 1i, -1i, 2 + 2i, 1 + 2i, 2 + 1i, -1 - 2i, -2 + 1i, 3 - 1i, 1e300 + 1i}, odd...)
	for _, p := range bad {
		for at := range 8 {
			l := points.Of([]byte{0x1B, 0xE4})
			l[at] = p
			wantBack(t, l, nil, api.ErrForm)
		}
	}
}

// P6.2

func TestErrors(t *testing.T) {
	for i, p := range four {
		for j, q := range four {
			want := 1
			if i == j {
				want = 0
			}
			wantErrors(t, []complex128{p}, []complex128{q}, want, api.OK)
			// how far they are is of no matter
			wantErrors(t, []complex128{500 * p}, []complex128{q / 4}, want, api.OK)
		}
	}
	wantErrors(t, nil, nil, 0, api.OK)
	wantErrors(t, nil, []complex128{}, 0, api.OK)
	a := []complex128{3 + 3i, 3 - 3i, -3, 0, -9i, 7}
	b := []complex128{1 + 1i, 1 + 1i, 1 - 1i, 5 + 5i, 4 - 4i, -7 + 1i}
	wantErrors(t, a, b, 3, api.OK)
	wantErrors(t, b, a, 3, api.OK)
	wantErrors(t, []complex128{complex(noNumber, noNumber)}, []complex128{1 + 1i}, 0, api.OK)
	wantErrors(t, []complex128{complex(noNumber, -1)}, []complex128{complex(noNumber, 1)}, 1, api.OK)
	wantErrors(t, odd, odd, 0, api.OK)
	many := make([]complex128, most+1)
	wantErrors(t, many, points.Turn(points.Of(make([]byte, (most+4)/4)), 2)[:most+1], most+1, api.OK)
}

func TestErrorsAndMixOfUnlikeMany(t *testing.T) {
	l := points.Of([]byte("ab"))
	for many := range len(l) {
		wantErrors(t, l, l[:many], 0, api.ErrArg)
		wantErrors(t, l[:many], l, 0, api.ErrArg)
		wantMix(t, l, l[:many], nil, api.ErrArg)
		wantMix(t, l[:many], l, nil, api.ErrArg)
	}
	wantErrors(t, nil, odd, 0, api.ErrArg)
	wantMix(t, nil, odd, nil, api.ErrArg)
}

func TestLength(t *testing.T) {
	for _, c := range []struct {
		l    []complex128
		want int
	}{
		{nil, 0},
		{[]complex128{}, 0},
		{[]complex128{0}, 0},
		{[]complex128{complex(math.Copysign(0, -1), math.Copysign(0, -1))}, 0},
		{[]complex128{3 + 4i}, 25},
		{[]complex128{-3 + 4i, 5i, -12, 1 - 1i}, 25 + 25 + 144 + 2},
		{[]complex128{greatest}, 1000000},
		{[]complex128{complex(-greatest, 0)}, 1000000},
		{[]complex128{complex(greatest, -greatest), complex(-greatest, greatest)}, 4000000},
		{[]complex128{999 - 999i}, 2 * 999 * 999},
	} {
		wantLength(t, c.l, c.want, api.OK)
	}
}

func TestLengthOfWrongParts(t *testing.T) {
	parts := []float64{
		greatest + 1, -greatest - 1, greatest + 0.5, math.Nextafter(greatest, 2000), 0.5, -0.5, 1.25, math.SmallestNonzeroFloat64,
		999.9999, 1e18, -1e300, math.MaxFloat64, endless, -endless, noNumber,
	}
	for _, part := range parts {
		for _, p := range []complex128{complex(part, 1), complex(1, part), complex(part, part)} {
			for at := range 3 {
				l := []complex128{1, 2, 3}
				l[at] = p
				wantLength(t, l, 0, api.ErrArg)
			}
		}
	}
}

func TestLengthOfVeryMany(t *testing.T) {
	l := make([]complex128, most+1)
	for i := range l {
		l[i] = complex(-greatest, greatest)
	}
	wantLength(t, l[:most-1], (most-1)*2000000, api.OK)
	wantLength(t, l[:most], most*2000000, api.OK)
	wantLength(t, l, 0, api.ErrArg)
	wantLength(t, make([]complex128, most+1), 0, api.ErrArg)
	l[most-1] = complex(greatest+1, 0)
	wantLength(t, l[:most], 0, api.ErrArg)
}

func TestMix(t *testing.T) {
	wantMix(t, nil, nil, nil, api.OK)
	wantMix(t, []complex128{}, nil, nil, api.OK)
	wantMix(t, []complex128{1 + 1i, 3 - 4i, 0, 1 - 1i}, []complex128{1 + 1i, -5 + 1i, 7i, -1 + 1i}, []complex128{2 + 2i, -2 - 3i, 7i, 0}, api.OK)
	a, b := whole(4, 300), whole(5, 300)
	want := make([]complex128, len(a))
	for i := range a {
		want[i] = complex(real(a[i])+real(b[i]), imag(a[i])+imag(b[i]))
	}
	wantMix(t, a, b, want, api.OK)
	wantMix(t, b, a, want, api.OK)
	// what Mix hands out may be beyond what Length takes
	wantMix(t, []complex128{complex(greatest, -greatest)}, []complex128{1 - 1i}, []complex128{complex(greatest+1, -greatest-1)}, api.OK)
}

// P6.3

func TestBytesThereAndBack(t *testing.T) {
	wantBack(t, points.Of(allBytes()), allBytes(), api.OK)
	for seed := range int64(50) {
		r := rand.New(rand.NewSource(seed))
		b := make([]byte, r.Intn(300))
		r.Read(b)
		wantBack(t, points.Of(b), b, api.OK)
	}
}

func TestTurnsTogether(t *testing.T) {
	for _, l := range [][]complex128{points.Of(allBytes()), whole(6, 100)} {
		for _, k := range turnings {
			once := points.Turn(l, k)
			for range 3 {
				once = points.Turn(once, k)
			}
			wantPoints(t, "Turn four times", once, l)
			for m := -5; m <= 5; m++ {
				// whole rounds are left out of k, as k and m together may be beyond their type
				wantPoints(t, "Turn by both", points.Turn(points.Turn(l, k), m), points.Turn(l, k%4+m))
			}
		}
		for k := -9; k <= 9; k++ {
			for m := -9; m <= 9; m++ {
				wantPoints(t, "Turn by both", points.Turn(points.Turn(l, k), m), points.Turn(l, k+m))
			}
			wantPoints(t, "Turn there and back", points.Turn(points.Turn(l, k), -k), l)
		}
		wantPoints(t, "Turn by four", points.Turn(l, 4), l)
		wantPoints(t, "Turn back by four", points.Turn(l, -4), l)
	}
}

func TestTurnOfOddPoints(t *testing.T) {
	l := slices.Clone(odd)
	for k := 1; k <= 4; k++ {
		l = points.Turn(l, 1)
		if once := points.Turn(odd, k); !samePoints(l, once) {
			t.Errorf("Turn by %d: %v, quarter by quarter %v", k, once, l)
		}
	}
	if !samePoints(l, odd) {
		t.Errorf("Turn by four quarters: %v, want %v", l, odd)
	}
}

// P6.4

func TestTheFourPointsLength(t *testing.T) {
	for _, k := range turnings {
		for _, p := range points.Turn(four, k) {
			wantLength(t, []complex128{p}, 2, api.OK)
			if !slices.Contains(four, p) {
				t.Fatalf("turned by %d: %v", k, p)
			}
		}
		l := points.Turn(points.Of(allBytes()), k)
		wantLength(t, l, 2*len(l), api.OK)
	}
}

func TestTurnedByAHalfIsAnother(t *testing.T) {
	l := points.Of(allBytes())
	for _, k := range []int{2, -2, 6, math.MinInt + 2} {
		half := points.Turn(l, k)
		wantErrors(t, l, half, len(l), api.OK)
		b := allBytes()
		for i := range b {
			b[i] ^= 0xFF
		}
		wantBack(t, half, b, api.OK)
	}
	for at := range l {
		one := slices.Clone(l)
		one[at] = points.Turn(l[at:at+1], 2)[0]
		wantErrors(t, l, one, 1, api.OK)
	}
}

// P1

func TestNothingPanics(t *testing.T) {
	for _, k := range turnings {
		if l := points.Turn(odd, k); len(l) != len(odd) {
			t.Errorf("Turn of odd points: %d of them", len(l))
		}
	}
	for _, p := range odd {
		if near := points.Near(p); !slices.Contains(four, near) {
			t.Errorf("Near(%v): %v", p, near)
		}
		wantLength(t, []complex128{p}, 0, api.ErrArg)
		wantBack(t, []complex128{p, p, p, p}, nil, api.ErrForm)
	}
	minus := points.Turn(odd, 2)
	if l, e := points.Mix(odd, minus); len(l) != len(odd) || e != api.OK {
		t.Errorf("Mix of odd points: %d of them, %v", len(l), e)
	}
}

// rules 4 and 5 of the document

func TestWhatIsHandedInStays(t *testing.T) {
	under := whole(7, 12)
	copied := slices.Clone(under)
	a, b := under[:4], under[5:9]
	points.Turn(a, 1)
	points.Mix(a, b)
	points.Back(a)
	points.Errors(a, b)
	points.Length(a)
	wantPoints(t, "what was handed in", under, copied)
	text := []byte("abcdef")
	points.Of(text[:3])
	if string(text) != "abcdef" {
		t.Errorf("what was handed in is changed: %q", text)
	}
}

func TestWhatIsHandedOutIsNewMemory(t *testing.T) {
	l := points.Of([]byte("ab"))
	copied := slices.Clone(l)
	nothing := make([]complex128, len(l))
	mixed, _ := points.Mix(l, nothing)
	for _, out := range [][]complex128{points.Of([]byte("ab")), points.Turn(l, 0), points.Turn(l, 4), points.Turn(l, 1), mixed} {
		if cap(out) != len(out) {
			t.Errorf("there is room for %d behind", cap(out)-len(out))
		}
		for i := range out {
			out[i] = 9
		}
	}
	wantPoints(t, "what was handed in", l, copied)
	wantPoints(t, "what was handed in", nothing, make([]complex128, len(l)))
	wantBack(t, l, []byte("ab"), api.OK)
}
