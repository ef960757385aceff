package split_test

import (
	"math"
	"math/rand"
	"slices"
	"testing"

	"bowline/api"
	"bowline/split"
)

const mostAsks = 32

// model is what Share asks for of what may be, word by word, a byte after the other.
func model(total int, l []split.Ask) []int {
	got := make([]int, len(l))
	left := total
	for _, rated := range []bool{true, false} {
		for rank := 1; rank <= 16; rank++ {
			for at, a := range l {
				for a.Rank == rank && left > 0 && got[at] < a.Want && (!rated || got[at] < a.Rate) {
					got[at]++
					left--
				}
			}
		}
	}
	return got
}

// ranks is the places that Order asks for, found by looking for each rank in the list.
func ranks(l []split.Ask) []int {
	var all, places []int
	for _, a := range l {
		if !slices.Contains(all, a.Rank) {
			all = append(all, a.Rank)
		}
	}
	slices.Sort(all)
	for _, rank := range all {
		for at, a := range l {
			if a.Rank == rank {
				places = append(places, at)
			}
		}
	}
	return places
}

// many is so many asks that may be, of one rank, that want a byte each and have no rate.
func many(n int) []split.Ask {
	l := make([]split.Ask, n)
	for at := range l {
		l[at] = split.Ask{ID: at, Rank: 1, Want: 1}
	}
	return l
}

// some is so many asks that may be.
func some(r *rand.Rand, n int) []split.Ask {
	l := make([]split.Ask, n)
	for at, id := range r.Perm(n) {
		l[at] = split.Ask{ID: id - n/2, Rank: 1 + r.Intn(1+r.Intn(16))}
		l[at].Rate = r.Intn(1 + r.Intn(200))
		l[at].Want = r.Intn(1 + r.Intn(300))
	}
	return l
}

func wantShare(t *testing.T, total int, l []split.Ask, want ...int) {
	t.Helper()
	if got, e := split.Share(total, l); e != api.OK || !slices.Equal(got, want) {
		t.Fatalf("Share(%d, %v): %v %v, want %v", total, l, got, e, want)
	}
}

func wantFault(t *testing.T, total int, l []split.Ask, want api.Errno) {
	t.Helper()
	if got, e := split.Share(total, l); e != want || len(got) != 0 {
		t.Fatalf("Share(%d, %v): %v %v, want %v", total, l, got, e, want)
	}
}

// P29.1: Right

// asks are asks that may be, or may not be because of one thing alone.
var asks = []struct {
	a     split.Ask
	right bool
}{
	{split.Ask{}, false},
	{split.Ask{Rank: 1}, true},
	{split.Ask{ID: 1, Rank: 8, Rate: 100, Want: 1000}, true},
	{split.Ask{ID: -1, Rank: 1}, true},
	{split.Ask{ID: 32, Rank: 1}, true},
	{split.Ask{ID: math.MaxInt, Rank: 1}, true},
	{split.Ask{ID: math.MinInt, Rank: 1}, true},
	{split.Ask{ID: 1, Rank: 16, Rate: api.MaxGrant, Want: api.MaxBytes}, true},
	{split.Ask{ID: 1, Rank: 16, Rate: 1, Want: 1}, true},
	{split.Ask{ID: 1, Rank: 17, Rate: 1, Want: 1}, false},
	{split.Ask{ID: 1, Rank: 0, Rate: 1, Want: 1}, false},
	{split.Ask{ID: 1, Rank: -1, Rate: 1, Want: 1}, false},
	{split.Ask{ID: 1, Rank: math.MinInt, Rate: 1, Want: 1}, false},
	{split.Ask{ID: 1, Rank: math.MaxInt, Rate: 1, Want: 1}, false},
	{split.Ask{ID: 1, Rank: 1 + 1<<32, Rate: 1, Want: 1}, false},
	{split.Ask{ID: 1, Rank: 1, Rate: 0, Want: 1}, true},
	{split.Ask{ID: 1, Rank: 1, Rate: -1, Want: 1}, false},
	{split.Ask{ID: 1, Rank: 1, Rate: math.MinInt, Want: 1}, false},
	{split.Ask{ID: 1, Rank: 1, Rate: api.MaxGrant - 1, Want: 1}, true},
	{split.Ask{ID: 1, Rank: 1, Rate: api.MaxGrant, Want: 1}, true},
	{split.Ask{ID: 1, Rank: 1, Rate: api.MaxGrant + 1, Want: 1}, false},
	{split.Ask{ID: 1, Rank: 1, Rate: math.MaxInt, Want: 1}, false},
	{split.Ask{ID: 1, Rank: 1, Rate: 1, Want: 0}, true},
	{split.Ask{ID: 1, Rank: 1, Rate: 1, Want: -1}, false},
	{split.Ask{ID: 1, Rank: 1, Rate: 1, Want: math.MinInt}, false},
	{split.Ask{ID: 1, Rank: 1, Rate: 1, Want: api.MaxBytes - 1}, true},
	{split.Ask{ID: 1, Rank: 1, Rate: 1, Want: api.MaxBytes}, true},
	{split.Ask{ID: 1, Rank: 1, Rate: 1, Want: api.MaxBytes + 1}, false},
	{split.Ask{ID: 1, Rank: 1, Rate: 1, Want: math.MaxInt}, false},
}

func TestRight(t *testing.T) {
	for _, c := range asks {
		if split.Right(c.a) != c.right {
			t.Errorf("Right(%v): %v", c.a, !c.right)
		}
	}
}

// P29.1: Order

func TestOrder(t *testing.T) {
	for _, c := range []struct{ ranks, want []int }{
		{nil, nil},
		{[]int{1}, []int{0}},
		{[]int{16}, []int{0}},
		{[]int{1, 2}, []int{0, 1}},
		{[]int{2, 1}, []int{1, 0}},
		{[]int{3, 3, 3}, []int{0, 1, 2}},
		{[]int{2, 1, 2, 1}, []int{1, 3, 0, 2}},
		{[]int{16, 1, 8}, []int{1, 2, 0}},
		{[]int{10, 9, 2, 11}, []int{2, 1, 0, 3}},
		// asks that may not be have ranks, too
		{[]int{0, -1, 17, 1}, []int{1, 0, 3, 2}},
		{[]int{math.MaxInt, math.MinInt, 0, math.MinInt, math.MaxInt}, []int{1, 3, 2, 0, 4}},
	} {
		var l []split.Ask
		for _, rank := range c.ranks {
			l = append(l, split.Ask{Rank: rank})
		}
		if got := split.Order(l); !slices.Equal(got, c.want) {
			t.Errorf("Order of the ranks %v: %v, want %v", c.ranks, got, c.want)
		}
	}
}

func TestOrderOfAllSmallLists(t *testing.T) {
	l := make([]split.Ask, 6)
	for v := range 4096 {
		for at := range l {
			l[at] = split.Ask{Rank: 1 + v>>(2*at)&3}
		}
		if got, want := split.Order(l), ranks(l); !slices.Equal(got, want) {
			t.Fatalf("Order(%v): %v, want %v", l, got, want)
		}
	}
}

func TestOrderOfLongLists(t *testing.T) {
	r := rand.New(rand.NewSource(1))
	for _, n := range []int{31, 32, 33, 100, 1000} {
		l := some(r, n)
		if got, want := split.Order(l), ranks(l); !slices.Equal(got, want) {
			t.Fatalf("Order of %d: %v, want %v", n, got, want)
		}
	}
}

// Of the rest of an ask nothing hangs on.
func TestOrderLooksAtRanksAlone(t *testing.T) {
	l := []split.Ask{
		{ID: 9, Rank: 2, Rate: 1, Want: 9},
		{ID: 3, Rank: 2, Rate: 5, Want: 1},
		{ID: 3, Rank: 1, Rate: -7, Want: 5},
		{ID: -4, Rank: 2, Rate: api.MaxGrant, Want: math.MinInt},
	}
	if got := split.Order(l); !slices.Equal(got, []int{2, 0, 1, 3}) {
		t.Errorf("Order: %v", got)
	}
}

// P29.1: Share

func TestExample(t *testing.T) {
	wantShare(t, 10, []split.Ask{{ID: 1, Rank: 1, Rate: 4, Want: 9}, {ID: 2, Rank: 2, Rate: 4, Want: 9}}, 6, 4)
}

func TestShare(t *testing.T) {
	first := split.Ask{ID: 1, Rank: 1, Rate: 4, Want: 9}
	other := split.Ask{ID: 2, Rank: 1, Rate: 4, Want: 9}
	later := split.Ask{ID: 3, Rank: 2, Rate: 4, Want: 9}
	greedy := split.Ask{ID: 4, Rank: 1, Rate: api.MaxGrant, Want: api.MaxBytes}
	modest := split.Ask{ID: 5, Rank: 16, Rate: 100, Want: 3}
	idle := split.Ask{ID: 6, Rank: 1, Rate: 100}
	for _, c := range []struct {
		total int
		l     []split.Ask
		want  []int
	}{
		{0, nil, nil},
		{100, nil, nil},
		{100, []split.Ask{}, nil},
		// what is left behind the rates goes by ranks
		{0, []split.Ask{first, later}, []int{0, 0}},
		{3, []split.Ask{first, later}, []int{3, 0}},
		{4, []split.Ask{first, later}, []int{4, 0}},
		{5, []split.Ask{first, later}, []int{4, 1}},
		{8, []split.Ask{first, later}, []int{4, 4}},
		{9, []split.Ask{first, later}, []int{5, 4}},
		{13, []split.Ask{first, later}, []int{9, 4}},
		{14, []split.Ask{first, later}, []int{9, 5}},
		{18, []split.Ask{first, later}, []int{9, 9}},
		{19, []split.Ask{first, later}, []int{9, 9}},
		{api.MaxGrant, []split.Ask{first, later}, []int{9, 9}},
		// the answer is in the list's order
		{3, []split.Ask{later, first}, []int{0, 3}},
		{10, []split.Ask{later, first}, []int{4, 6}},
		{14, []split.Ask{later, first}, []int{5, 9}},
		// of equal ranks the first one in the list, whichever ID it has
		{3, []split.Ask{first, other}, []int{3, 0}},
		{3, []split.Ask{other, first}, []int{3, 0}},
		{10, []split.Ask{first, other}, []int{6, 4}},
		{10, []split.Ask{other, first}, []int{6, 4}},
		// three, and one that is ahead of them in rank only
		{12, []split.Ask{later, first, other}, []int{4, 4, 4}},
		{11, []split.Ask{later, first, other}, []int{3, 4, 4}},
		{20, []split.Ask{later, first, other}, []int{4, 9, 7}},
		// without a rate one gets what is left alone
		{8, []split.Ask{{ID: 1, Rank: 1, Want: 9}, later}, []int{4, 4}},
		{4, []split.Ask{{ID: 1, Rank: 1, Want: 9}, later}, []int{0, 4}},
		// who wants less than its rate gets that, and who wants nothing gets nothing
		{10, []split.Ask{modest, idle}, []int{3, 0}},
		{2, []split.Ask{modest, idle}, []int{2, 0}},
		{10, []split.Ask{idle, modest, later}, []int{0, 3, 7}},
		// a rate as great as the grant leaves nothing to the others
		{api.MaxGrant, []split.Ask{modest, greedy}, []int{0, api.MaxGrant}},
		{api.MaxGrant, []split.Ask{greedy, first}, []int{api.MaxGrant, 0}},
		{api.MaxGrant, []split.Ask{first, greedy}, []int{4, api.MaxGrant - 4}},
		{api.MaxGrant, []split.Ask{{ID: 1, Rank: 16, Want: api.MaxBytes}}, []int{api.MaxGrant}},
	} {
		wantShare(t, c.total, c.l, c.want...)
	}
}

func TestShareTotals(t *testing.T) {
	one := []split.Ask{{ID: 1, Rank: 1, Want: api.MaxBytes}}
	for total := range api.MaxGrant + 1 {
		wantShare(t, total, one, total)
	}
	for _, total := range []int{-1, -10, math.MinInt, api.MaxGrant + 1, math.MaxInt, 1<<32 + 1} {
		wantFault(t, total, one, api.ErrArg)
		wantFault(t, total, nil, api.ErrArg)
	}
}

func TestShareOfManyAsks(t *testing.T) {
	for _, n := range []int{mostAsks - 1, mostAsks} {
		wantShare(t, api.MaxGrant, many(n), slices.Repeat([]int{1}, n)...)
		wantShare(t, 5, many(n), append([]int{1, 1, 1, 1, 1}, make([]int, n-5)...)...)
	}
	for _, n := range []int{mostAsks + 1, mostAsks + 2, 100, 1000} {
		wantFault(t, api.MaxGrant, many(n), api.ErrArg)
		wantFault(t, 0, many(n), api.ErrArg)
	}
}

func TestShareOfAsksThatMayNotBe(t *testing.T) {
	for _, c := range asks {
		l := []split.Ask{c.a}
		if c.right {
			wantShare(t, api.MaxGrant, l, min(c.a.Want, api.MaxGrant))
			continue
		}
		wantFault(t, api.MaxGrant, l, api.ErrForm)
		for at := range 5 {
			wantFault(t, 0, slices.Insert(many(4), at, split.Ask{ID: 77, Rank: c.a.Rank, Rate: c.a.Rate, Want: c.a.Want}), api.ErrForm)
		}
	}
}

func TestShareOfOneIDTwice(t *testing.T) {
	for _, id := range []int{0, 1, -1, math.MaxInt, math.MinInt} {
		wantFault(t, 10, []split.Ask{{ID: id, Rank: 1}, {ID: id, Rank: 1}}, api.ErrTwice)
		wantFault(t, 10, []split.Ask{{ID: id, Rank: 2, Rate: 3}, {ID: 7, Rank: 1}, {ID: id, Rank: 1, Want: 5}}, api.ErrTwice)
	}
	for a := range mostAsks {
		for b := range a {
			l := many(mostAsks)
			l[a].ID = b
			wantFault(t, 10, l, api.ErrTwice)
		}
	}
}

func TestShareFirstErrorFirst(t *testing.T) {
	wrong := split.Ask{ID: 1, Rank: 17}
	twice := []split.Ask{{ID: 1, Rank: 1}, {ID: 1, Rank: 1}}
	tooMany := append(many(mostAsks+1), wrong, wrong)
	wantFault(t, -1, tooMany, api.ErrArg)
	wantFault(t, 1, tooMany, api.ErrArg)
	wantFault(t, -1, []split.Ask{wrong}, api.ErrArg)
	wantFault(t, -1, twice, api.ErrArg)
	wantFault(t, 1, append(many(mostAsks), split.Ask{ID: 1, Rank: 1}), api.ErrArg)
	// one that may not be stands behind two of one ID, too
	wantFault(t, 1, append(slices.Clone(twice), wrong), api.ErrForm)
	wantFault(t, 1, []split.Ask{wrong, wrong}, api.ErrForm)
}

func TestShareIsAsTheModel(t *testing.T) {
	r := rand.New(rand.NewSource(2))
	scarce, enough := 0, 0
	for range 4000 {
		l := some(r, r.Intn(mostAsks+1))
		total := r.Intn(1 + r.Intn(api.MaxGrant+1))
		want := model(total, l)
		wantShare(t, total, l, want...)
		if sum(want) < sum(wants(l)) {
			scarce++
		} else {
			enough++
		}
	}
	if min(scarce, enough) < 500 {
		t.Errorf("%d were scarce, %d were not", scarce, enough)
	}
}

func TestShareOfAllSmallListsIsAsTheModel(t *testing.T) {
	for v := range 1 << 12 {
		l := make([]split.Ask, 3)
		for at := range l {
			bits := v >> (4 * at)
			l[at] = split.Ask{ID: at, Rank: 1 + bits&1, Rate: bits >> 1 & 1, Want: bits >> 2 & 3}
		}
		for total := range 11 {
			wantShare(t, total, l, model(total, l)...)
		}
	}
}

// P29.2, P29.3

func sum(l []int) int {
	n := 0
	for _, v := range l {
		n += v
	}
	return n
}

func wants(l []split.Ask) []int {
	var all []int
	for _, a := range l {
		all = append(all, a.Want)
	}
	return all
}

func TestWhatFollows(t *testing.T) {
	r := rand.New(rand.NewSource(3))
	rated, beyond := 0, 0
	for range 4000 {
		l := some(r, r.Intn(mostAsks+1))
		total := r.Intn(api.MaxGrant + 1)
		got, e := split.Share(total, l)
		if e != api.OK || len(got) != len(l) {
			t.Fatalf("Share(%d, %v): %v %v", total, l, got, e)
		}
		if sum(got) != min(total, sum(wants(l))) {
			t.Fatalf("Share(%d, %v): %v: %d in all", total, l, got, sum(got))
		}
		for at, a := range l {
			if got[at] < 0 || got[at] > a.Want {
				t.Fatalf("Share(%d, %v): %v", total, l, got)
			}
		}
		ahead := 0
		for _, place := range ranks(l) {
			ahead += l[place].Rate
			if ahead > total {
				beyond++
				break
			}
			if l[place].Want >= l[place].Rate {
				rated++
				if got[place] < l[place].Rate {
					t.Fatalf("Share(%d, %v): %v: the place %d has not its rate", total, l, got, place)
				}
			}
		}
	}
	if rated < 5000 || beyond < 500 {
		t.Errorf("%d had their rates, %d did not", rated, beyond)
	}
}

// rules 4 and 5 of the document

func TestWhatIsHandedInStays(t *testing.T) {
	under := []split.Ask{{1, 3, 4, 9}, {2, 2, 4, 9}, {3, 1, 4, 9}, {3, 99, -1, -1}, {3, 1, 4, 9}}
	kept := slices.Clone(under)
	split.Order(under)
	split.Order(under[:3])
	wantShare(t, 10, under[:3], 2, 4, 4)
	wantFault(t, 10, under, api.ErrForm)
	if !slices.Equal(under, kept) {
		t.Errorf("what was handed in is changed: %v", under)
	}
}

func TestWhatIsHandedOutIsNewMemory(t *testing.T) {
	l := many(5)
	for _, lay := range []func() []int{
		func() []int { return split.Order(l) },
		func() []int {
			got, _ := split.Share(3, l)
			return got
		},
	} {
		a := lay()
		kept := slices.Clone(a)
		if cap(a) != len(a) {
			t.Errorf("there is room for %d behind", cap(a)-len(a))
		}
		for at := range a {
			a[at] = -1
		}
		if b := lay(); !slices.Equal(b, kept) {
			t.Errorf("%v, and then %v", kept, b)
		}
	}
}
