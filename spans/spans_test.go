package spans_test

import (
	"math"
	"math/rand"
	"slices"
	"testing"

	"bowline/api"
	"bowline/spans"
)

const most = api.MaxSpan

// wrong is spans that may not be.
var wrong = []spans.Span{
	{}, {5, 5}, {6, 5}, {1, 0}, {0, -1}, {-1, 1}, {-5, -2}, {-1, 0}, {math.MinInt, 5}, {math.MinInt, math.MaxInt},
	{0, most + 1}, {most, most}, {most, most + 1}, {most - 1, most + 1}, {5, math.MaxInt}, {math.MaxInt, math.MinInt},
	{math.MaxInt, math.MaxInt}, {math.MinInt, math.MinInt}, {5, math.MinInt},
}

func made(t *testing.T, l ...spans.Span) *spans.Set {
	t.Helper()
	s, e := spans.New(l...)
	if s == nil || e != api.OK {
		t.Fatalf("New(%v): %v", l, e)
	}
	return s
}

func wantSpans(t *testing.T, s *spans.Set, want ...spans.Span) {
	t.Helper()
	if l := s.Spans(); !slices.Equal(l, want) {
		t.Fatalf("Spans: %v, want %v", l, want)
	}
	n := 0
	for _, x := range want {
		n += x.To - x.From
	}
	if s.Count() != n {
		t.Fatalf("Count: %d, want %d", s.Count(), n)
	}
}

func wantGaps(t *testing.T, s *spans.Set, to int, want ...spans.Span) {
	t.Helper()
	if l := s.Gaps(to); !slices.Equal(l, want) {
		t.Fatalf("of %v: Gaps(%d): %v, want %v", s.Spans(), to, l, want)
	}
}

func wantErr(t *testing.T, what string, x spans.Span, e, want api.Errno) {
	t.Helper()
	if e != want {
		t.Fatalf("%s(%v): %v, want %v", what, x, e, want)
	}
}

// apart is so many spans of one place, every second place, from 0 on.
func apart(many int) []spans.Span {
	l := make([]spans.Span, many)
	for i := range l {
		l[i] = spans.Span{From: 2 * i, To: 2*i + 1}
	}
	return l
}

// P3.1

func TestRight(t *testing.T) {
	for _, x := range []spans.Span{{0, 1}, {0, most}, {most - 1, most}, {5, 6}, {5, 600}, {1, most - 1}} {
		if !spans.Right(x) {
			t.Errorf("Right(%v): false", x)
		}
	}
	for _, x := range wrong {
		if spans.Right(x) {
			t.Errorf("Right(%v): true", x)
		}
	}
}

func TestNewIsOfNoPlace(t *testing.T) {
	s := made(t)
	wantSpans(t, s)
	wantGaps(t, s, most, spans.Span{From: 0, To: most})
	a, b := made(t), made(t)
	wantErr(t, "Add", spans.Span{From: 1, To: 2}, a.Add(spans.Span{From: 1, To: 2}), api.OK)
	wantSpans(t, a, spans.Span{From: 1, To: 2})
	wantSpans(t, b)
}

func TestNewAddsEach(t *testing.T) {
	wantSpans(t, made(t, spans.Span{From: 2, To: 5}, spans.Span{From: 5, To: 9}), spans.Span{From: 2, To: 9})
	wantSpans(t, made(t, spans.Span{From: 7, To: 9}, spans.Span{From: 0, To: 2}, spans.Span{From: 1, To: 4}, spans.Span{From: 7, To: 9}),
		spans.Span{From: 0, To: 4}, spans.Span{From: 7, To: 9})
	wantSpans(t, made(t, apart(api.MaxSpans)...), apart(api.MaxSpans)...)
}

func TestNewFirstError(t *testing.T) {
	bad, full := spans.Span{From: 3, To: 3}, apart(api.MaxSpans+1)
	for _, c := range []struct {
		l    []spans.Span
		want api.Errno
	}{
		{[]spans.Span{bad}, api.ErrArg},
		{[]spans.Span{{1, 2}, bad, {4, 5}}, api.ErrArg},
		{[]spans.Span{{1, 2}, {4, 5}, bad}, api.ErrArg},
		{full, api.ErrFull},
		{append(slices.Clone(full), bad), api.ErrFull},
		{append([]spans.Span{bad}, full...), api.ErrArg},
		// they would be one span at the end, but are added one by one
		{append(slices.Clone(full), spans.Span{From: 0, To: most}), api.ErrFull},
	} {
		if s, e := spans.New(c.l...); s != nil || e != c.want {
			t.Errorf("New of %d: %v %v, want %v", len(c.l), s != nil, e, c.want)
		}
	}
}

func TestNil(t *testing.T) {
	var s *spans.Set
	for _, x := range append([]spans.Span{{0, 1}, {0, most}}, wrong...) {
		wantErr(t, "Add", x, s.Add(x), api.ErrNil)
		wantErr(t, "Take", x, s.Take(x), api.ErrNil)
		if s.Has(x) || s.Touches(x) {
			t.Errorf("of nil: Has(%v) %v, Touches %v", x, s.Has(x), s.Touches(x))
		}
	}
	wantSpans(t, s)
	for _, to := range []int{-1, 0, 1, most, most + 1} {
		wantGaps(t, s, to)
	}
}

func TestNewKeepsNothing(t *testing.T) {
	under := []spans.Span{{8, 9}, {2, 4}, {3, 6}, {20, 30}}
	s := made(t, under[:3]...)
	if !slices.Equal(under, []spans.Span{{8, 9}, {2, 4}, {3, 6}, {20, 30}}) {
		t.Errorf("what was handed in is changed: %v", under)
	}
	for i := range under {
		under[i] = spans.Span{From: 40, To: 41}
	}
	wantSpans(t, s, spans.Span{From: 2, To: 6}, spans.Span{From: 8, To: 9})
}

// P3.2

func TestAdd(t *testing.T) {
	for _, c := range []struct {
		x    spans.Span
		want []spans.Span
	}{
		{spans.Span{From: 0, To: 1}, []spans.Span{{0, 1}, {10, 20}, {30, 40}}},
		{spans.Span{From: 0, To: 9}, []spans.Span{{0, 9}, {10, 20}, {30, 40}}},
		{spans.Span{From: 0, To: 10}, []spans.Span{{0, 20}, {30, 40}}},
		{spans.Span{From: 9, To: 11}, []spans.Span{{9, 20}, {30, 40}}},
		{spans.Span{From: 10, To: 20}, []spans.Span{{10, 20}, {30, 40}}},
		{spans.Span{From: 12, To: 13}, []spans.Span{{10, 20}, {30, 40}}},
		{spans.Span{From: 19, To: 21}, []spans.Span{{10, 21}, {30, 40}}},
		{spans.Span{From: 20, To: 21}, []spans.Span{{10, 21}, {30, 40}}},
		{spans.Span{From: 21, To: 22}, []spans.Span{{10, 20}, {21, 22}, {30, 40}}},
		{spans.Span{From: 21, To: 29}, []spans.Span{{10, 20}, {21, 29}, {30, 40}}},
		{spans.Span{From: 20, To: 30}, []spans.Span{{10, 40}}},
		{spans.Span{From: 15, To: 35}, []spans.Span{{10, 40}}},
		{spans.Span{From: 5, To: 45}, []spans.Span{{5, 45}}},
		{spans.Span{From: 5, To: 25}, []spans.Span{{5, 25}, {30, 40}}},
		{spans.Span{From: 25, To: 45}, []spans.Span{{10, 20}, {25, 45}}},
		{spans.Span{From: 40, To: 41}, []spans.Span{{10, 20}, {30, 41}}},
		{spans.Span{From: 41, To: most}, []spans.Span{{10, 20}, {30, 40}, {41, most}}},
		{spans.Span{From: 0, To: most}, []spans.Span{{0, most}}},
	} {
		s := made(t, spans.Span{From: 10, To: 20}, spans.Span{From: 30, To: 40})
		wantErr(t, "Add", c.x, s.Add(c.x), api.OK)
		wantSpans(t, s, c.want...)
		wantErr(t, "Add", c.x, s.Add(c.x), api.OK)
		wantSpans(t, s, c.want...)
	}
}

func TestTake(t *testing.T) {
	for _, c := range []struct {
		x    spans.Span
		want []spans.Span
	}{
		{spans.Span{From: 0, To: 10}, []spans.Span{{10, 20}, {30, 40}}},
		{spans.Span{From: 20, To: 30}, []spans.Span{{10, 20}, {30, 40}}},
		{spans.Span{From: 40, To: most}, []spans.Span{{10, 20}, {30, 40}}},
		{spans.Span{From: 0, To: 11}, []spans.Span{{11, 20}, {30, 40}}},
		{spans.Span{From: 10, To: 11}, []spans.Span{{11, 20}, {30, 40}}},
		{spans.Span{From: 12, To: 13}, []spans.Span{{10, 12}, {13, 20}, {30, 40}}},
		{spans.Span{From: 11, To: 19}, []spans.Span{{10, 11}, {19, 20}, {30, 40}}},
		{spans.Span{From: 19, To: 20}, []spans.Span{{10, 19}, {30, 40}}},
		{spans.Span{From: 10, To: 20}, []spans.Span{{30, 40}}},
		{spans.Span{From: 9, To: 21}, []spans.Span{{30, 40}}},
		{spans.Span{From: 15, To: 35}, []spans.Span{{10, 15}, {35, 40}}},
		{spans.Span{From: 10, To: 39}, []spans.Span{{39, 40}}},
		{spans.Span{From: 11, To: 40}, []spans.Span{{10, 11}}},
		{spans.Span{From: 30, To: 40}, []spans.Span{{10, 20}}},
		{spans.Span{From: 10, To: 40}, nil},
		{spans.Span{From: 0, To: most}, nil},
	} {
		s := made(t, spans.Span{From: 10, To: 20}, spans.Span{From: 30, To: 40})
		wantErr(t, "Take", c.x, s.Take(c.x), api.OK)
		wantSpans(t, s, c.want...)
		wantErr(t, "Take", c.x, s.Take(c.x), api.OK)
		wantSpans(t, s, c.want...)
	}
	s := made(t)
	wantErr(t, "Take", spans.Span{From: 0, To: most}, s.Take(spans.Span{From: 0, To: most}), api.OK)
	wantSpans(t, s)
}

func TestSpansThatMayNotBe(t *testing.T) {
	for _, s := range []*spans.Set{made(t), made(t, spans.Span{From: 2, To: 9}), made(t, spans.Span{From: 0, To: most}), made(t, apart(api.MaxSpans)...)} {
		want := s.Spans()
		for _, x := range wrong {
			wantErr(t, "Add", x, s.Add(x), api.ErrArg)
			wantErr(t, "Take", x, s.Take(x), api.ErrArg)
			if s.Has(x) || s.Touches(x) {
				t.Errorf("Has(%v) %v, Touches %v", x, s.Has(x), s.Touches(x))
			}
		}
		wantSpans(t, s, want...)
	}
}

func TestAddFull(t *testing.T) {
	all := apart(api.MaxSpans)
	last := all[len(all)-1]
	s := made(t, all[1:]...)
	wantErr(t, "Add", all[0], s.Add(all[0]), api.OK)
	for _, x := range []spans.Span{{last.To + 1, last.To + 2}, {most - 1, most}, {last.To + 1, most}} {
		wantErr(t, "Add", x, s.Add(x), api.ErrFull)
		wantSpans(t, s, all...)
	}
	// what makes no further span is put in all the same
	wantErr(t, "Add", all[7], s.Add(all[7]), api.OK)
	wantSpans(t, s, all...)
	x := spans.Span{From: last.To, To: last.To + 1}
	wantErr(t, "Add", x, s.Add(x), api.OK)
	if len(s.Spans()) != api.MaxSpans || s.Count() != api.MaxSpans+1 {
		t.Fatalf("spans: %d, Count %d", len(s.Spans()), s.Count())
	}
	x = spans.Span{From: 1, To: 2}
	wantErr(t, "Add", x, s.Add(x), api.OK)
	x = spans.Span{From: most - 1, To: most}
	wantErr(t, "Add", x, s.Add(x), api.OK)
	wantErr(t, "Add", x, s.Add(spans.Span{From: most - 3, To: most - 2}), api.ErrFull)
	x = spans.Span{From: 0, To: most}
	wantErr(t, "Add", x, s.Add(x), api.OK)
	wantSpans(t, s, x)
}

func TestTakeFull(t *testing.T) {
	wide := spans.Span{From: 3 * api.MaxSpans, To: 3*api.MaxSpans + 3}
	all := append(apart(api.MaxSpans-1), wide)
	s := made(t, all...)
	middle := spans.Span{From: wide.From + 1, To: wide.From + 2}
	wantErr(t, "Take", middle, s.Take(middle), api.ErrFull)
	wantSpans(t, s, all...)
	x := spans.Span{From: wide.From, To: wide.From + 1}
	wantErr(t, "Take", x, s.Take(x), api.OK)
	all[len(all)-1].From++
	wantSpans(t, s, all...)
	// with one span less, another one may be split
	wantErr(t, "Take", all[0], s.Take(all[0]), api.OK)
	wantErr(t, "Add", wide, s.Add(wide), api.OK)
	wantErr(t, "Take", middle, s.Take(middle), api.OK)
	want := append(all[1:api.MaxSpans-1:api.MaxSpans-1], spans.Span{From: wide.From, To: middle.From}, spans.Span{From: middle.To, To: wide.To})
	wantSpans(t, s, want...)
}

func TestTakeSplitsUpToTheMost(t *testing.T) {
	s := made(t, spans.Span{From: 0, To: most})
	for i := range api.MaxSpans - 1 {
		x := spans.Span{From: 2*i + 1, To: 2*i + 2}
		wantErr(t, "Take", x, s.Take(x), api.OK)
	}
	want := append(apart(api.MaxSpans-1), spans.Span{From: 2 * (api.MaxSpans - 1), To: most})
	wantSpans(t, s, want...)
	x := spans.Span{From: most - 2, To: most - 1}
	wantErr(t, "Take", x, s.Take(x), api.ErrFull)
	wantSpans(t, s, want...)
	x = spans.Span{From: 5000, To: most}
	wantErr(t, "Take", x, s.Take(x), api.OK)
	want[len(want)-1].To = 5000
	wantSpans(t, s, want...)
}

func TestHasAndTouches(t *testing.T) {
	s := made(t, spans.Span{From: 3, To: 6}, spans.Span{From: 7, To: 8}, spans.Span{From: 10, To: 14})
	there := "00011101001111000"
	for from := range len(there) {
		for to := from + 1; to <= len(there); to++ {
			all, one := true, false
			for _, c := range there[from:to] {
				all, one = all && c == '1', one || c == '1'
			}
			x := spans.Span{From: from, To: to}
			if s.Has(x) != all || s.Touches(x) != one {
				t.Errorf("%v: Has %v, Touches %v, want %v, %v", x, s.Has(x), s.Touches(x), all, one)
			}
		}
	}
	end := spans.Span{From: most - 1, To: most}
	if s.Has(end) || s.Touches(end) || s.Add(end) != api.OK || !s.Has(end) || !s.Touches(end) {
		t.Error("the last place is not there just when it was put in")
	}
}

// P3.3

func TestGaps(t *testing.T) {
	s := made(t, spans.Span{From: 2, To: 5}, spans.Span{From: 8, To: 9})
	for _, c := range []struct {
		to   int
		want []spans.Span
	}{
		{1, []spans.Span{{0, 1}}},
		{2, []spans.Span{{0, 2}}},
		{3, []spans.Span{{0, 2}}},
		{5, []spans.Span{{0, 2}}},
		{6, []spans.Span{{0, 2}, {5, 6}}},
		{8, []spans.Span{{0, 2}, {5, 8}}},
		{9, []spans.Span{{0, 2}, {5, 8}}},
		{10, []spans.Span{{0, 2}, {5, 8}, {9, 10}}},
		{most - 1, []spans.Span{{0, 2}, {5, 8}, {9, most - 1}}},
		{most, []spans.Span{{0, 2}, {5, 8}, {9, most}}},
	} {
		wantGaps(t, s, c.to, c.want...)
	}
	for _, to := range []int{0, -1, math.MinInt, most + 1, math.MaxInt} {
		wantGaps(t, s, to)
		wantGaps(t, made(t), to)
	}
	wantSpans(t, s, spans.Span{From: 2, To: 5}, spans.Span{From: 8, To: 9})
}

func TestGapsAtTheEnds(t *testing.T) {
	all := made(t, spans.Span{From: 0, To: most})
	ends := made(t, spans.Span{From: 0, To: 1}, spans.Span{From: most - 1, To: most})
	for _, to := range []int{1, 2, 700, most - 1, most} {
		wantGaps(t, all, to)
		wantGaps(t, made(t), to, spans.Span{From: 0, To: to})
	}
	wantGaps(t, ends, 1)
	wantGaps(t, ends, 2, spans.Span{From: 1, To: 2})
	wantGaps(t, ends, most-1, spans.Span{From: 1, To: most - 1})
	wantGaps(t, ends, most, spans.Span{From: 1, To: most - 1})
}

func TestWhatIsHandedOutIsNewMemory(t *testing.T) {
	want := []spans.Span{{2, 5}, {8, 9}}
	s := made(t, want...)
	for range 2 {
		for _, l := range [][]spans.Span{s.Spans(), s.Gaps(20)} {
			if cap(l) != len(l) {
				t.Errorf("%v has room for %d behind", l, cap(l)-len(l))
			}
			for i := range l {
				l[i] = spans.Span{From: 6, To: 7}
			}
		}
		wantSpans(t, s, want...)
		wantGaps(t, s, 9, spans.Span{From: 0, To: 2}, spans.Span{From: 5, To: 8})
	}
	before := s.Spans()
	s.Add(spans.Span{From: 0, To: 3})
	s.Take(spans.Span{From: 8, To: 9})
	if !slices.Equal(before, want) {
		t.Errorf("a later call changes what was handed out: %v", before)
	}
}

// P3.4 and P3.5: against places that are held one by one

// model is which of the places from base on are there; all others are not.
type model struct {
	base  int
	there []bool
}

// runs is the longest spans of places ahead of to that are there, or of those that are not.
func (m model) runs(is bool, to int) []spans.Span {
	var l []spans.Span
	for at := range to {
		has := at >= m.base && at < m.base+len(m.there) && m.there[at-m.base]
		if has != is {
			continue
		}
		if n := len(l); n > 0 && l[n-1].To == at {
			l[n-1].To++
			continue
		}
		l = append(l, spans.Span{From: at, To: at + 1})
	}
	return l
}

// change puts places in, or takes them out, and so in both.
func (m model) change(t *testing.T, s *spans.Set, x spans.Span, in bool) {
	t.Helper()
	if in {
		wantErr(t, "Add", x, s.Add(x), api.OK)
	} else {
		wantErr(t, "Take", x, s.Take(x), api.OK)
	}
	for at := x.From; at < x.To; at++ {
		m.there[at-m.base] = in
	}
}

func (m model) compare(t *testing.T, s *spans.Set, end int) {
	t.Helper()
	wantSpans(t, s, m.runs(true, end)...)
	for _, to := range []int{m.base + 1, m.base + len(m.there)/2, end} {
		wantGaps(t, s, to, m.runs(false, to)...)
	}
}

func TestAgainstPlaces(t *testing.T) {
	for seed := range int64(60) {
		r := rand.New(rand.NewSource(seed))
		m := model{0, make([]bool, 5+r.Intn(60))}
		s := made(t)
		for range 60 {
			from := r.Intn(len(m.there))
			x := spans.Span{From: from, To: from + 1 + r.Intn(min(12, len(m.there)-from))}
			m.change(t, s, x, r.Intn(2) == 0)
			m.compare(t, s, len(m.there)+3)
		}
	}
}

func TestAgainstPlacesAtTheEnd(t *testing.T) {
	r := rand.New(rand.NewSource(7))
	m := model{most - 40, make([]bool, 40)}
	s := made(t)
	for range 100 {
		from := r.Intn(40)
		x := spans.Span{From: m.base + from, To: m.base + from + 1 + r.Intn(40-from)}
		m.change(t, s, x, r.Intn(2) == 0)
		m.compare(t, s, most)
	}
}

// P3.4

func TestNoneTouchesTheNext(t *testing.T) {
	r := rand.New(rand.NewSource(3))
	s := made(t)
	for range 3000 {
		from := r.Intn(most)
		x := spans.Span{From: from, To: from + 1 + r.Intn(min(40, most-from))}
		if r.Intn(3) > 0 {
			s.Add(x)
		} else {
			s.Take(x)
		}
		l := s.Spans()
		for i, y := range l {
			if !spans.Right(y) || i > 0 && l[i-1].To >= y.From {
				t.Fatalf("behind %v: %v", x, l)
			}
		}
	}
}

// P3.5

func TestAllPlacesOnce(t *testing.T) {
	r := rand.New(rand.NewSource(5))
	s := made(t)
	for range 300 {
		from := r.Intn(most)
		s.Add(spans.Span{From: from, To: from + 1 + r.Intn(min(300, most-from))})
	}
	for _, to := range []int{1, 2, 77, 40000, most - 1, most} {
		n := make([]int, most)
		for _, x := range append(s.Spans(), s.Gaps(to)...) {
			for at := x.From; at < min(x.To, to); at++ {
				n[at]++
			}
			if x.To > to && !s.Has(x) {
				t.Fatalf("Gaps(%d) has %v", to, x)
			}
		}
		if i := slices.IndexFunc(n[:to], func(k int) bool { return k != 1 }); i >= 0 {
			t.Fatalf("ahead of %d, the place %d: %d times", to, i, n[i])
		}
	}
	whole := made(t, append(s.Spans(), s.Gaps(most)...)...)
	wantSpans(t, whole, spans.Span{From: 0, To: most})
}

// P1 of the rules

func TestSetThatNoCallMade(t *testing.T) {
	s := &spans.Set{}
	for _, x := range append([]spans.Span{{2, 5}, {0, most}}, wrong...) {
		s.Has(x)
		s.Touches(x)
		s.Take(x)
		s.Add(x)
		s.Take(x)
		s.Spans()
		s.Gaps(x.From)
		s.Gaps(x.To)
		s.Count()
	}
}
