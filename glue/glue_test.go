package glue_test

import (
	"bytes"
	"math"
	"math/rand"
	"regexp"
	"slices"
	"strings"
	"testing"

	"bowline/api"
	"bowline/cut"
	"bowline/glue"
	"bowline/queue"
)

// fis is FIs that may not be.
var fis = []int{-1, -2, -4, 4, 5, 7, 8, 256, 1 << 32, math.MinInt, math.MaxInt}

// bytesOf is fields, a text each.
func bytesOf(texts ...string) [][]byte {
	l := make([][]byte, len(texts))
	for i, text := range texts {
		l[i] = []byte(text)
	}
	return l
}

// long is a field of so many bytes.
func long(n int) string { return strings.Repeat("0123456789", n/10+1)[:n] }

// put is what is handed to Put, and what is wanted of it.
type put struct {
	fi         int
	gap        bool
	fields     []string
	texts      []string
	held, lost int // behind it
}

func wantPut(t *testing.T, g *glue.Glue, p put) {
	t.Helper()
	wantTold(t, g, p, api.OK)
}

func wantTold(t *testing.T, g *glue.Glue, p put, want api.Errno) {
	t.Helper()
	l, e := g.Put(p.fi, bytesOf(p.fields...), p.gap)
	same := slices.EqualFunc(l, p.texts, func(a []byte, b string) bool { return string(a) == b })
	if e != want || !same {
		t.Fatalf("Put(%d, %.40q, %v): %.40q %v, want %.40q %v", p.fi, p.fields, p.gap, l, e, p.texts, want)
	}
	wantState(t, g, p.held, p.lost)
}

func wantState(t *testing.T, g *glue.Glue, held, lost int) {
	t.Helper()
	if g.Held() != held || g.Lost() != lost {
		t.Fatalf("Held %d, Lost %d, want %d, %d", g.Held(), g.Lost(), held, lost)
	}
}

func texts(l ...string) []string { return l }

// P14.1

func TestNew(t *testing.T) {
	g := glue.New()
	if g == nil {
		t.Fatal("New: nil")
	}
	wantState(t, g, 0, 0)
	wantPut(t, g, put{0, false, texts("ab"), texts("ab"), 0, 0})
}

func TestNoGlue(t *testing.T) {
	for _, g := range []*glue.Glue{nil, {}} {
		for range 2 {
			for _, fi := range append(fis, 0, 1, 2, 3) {
				for _, l := range [][]string{nil, {""}, {"ab"}, {"ab", "c"}, make([]string, api.MaxFields+1)} {
					wantTold(t, g, put{fi: fi, fields: l}, api.ErrNil)
					wantTold(t, g, put{fi: fi, fields: l, gap: true}, api.ErrNil)
				}
			}
			g.Drop()
			wantState(t, g, 0, 0)
		}
	}
}

func TestDrop(t *testing.T) {
	g := glue.New()
	g.Drop()
	wantState(t, g, 0, 0)
	wantPut(t, g, put{3, false, texts("a", "b", "cd"), texts("b"), 2, 1})
	g.Drop()
	wantState(t, g, 0, 0)
	// nothing is held: what stands behind it is passed over
	wantPut(t, g, put{3, false, texts("ef"), nil, 0, 0})
	wantPut(t, g, put{2, false, texts("gh"), nil, 0, 1})
	wantPut(t, g, put{1, false, texts("ij"), nil, 2, 1})
	g.Drop()
	wantPut(t, g, put{0, true, texts("kl"), texts("kl"), 0, 0})
}

func TestGluesAreTheirOwn(t *testing.T) {
	a, b := glue.New(), glue.New()
	wantPut(t, a, put{1, false, texts("ab"), nil, 2, 0})
	wantState(t, b, 0, 0)
	wantPut(t, b, put{2, false, texts("cd"), nil, 0, 1})
	wantPut(t, a, put{2, false, texts("e"), texts("abe"), 0, 0})
	wantState(t, b, 0, 1)
}

// P14.2: fields come

func TestExample(t *testing.T) {
	g := glue.New()
	wantPut(t, g, put{1, false, texts("ab"), nil, 2, 0})
	wantPut(t, g, put{2, false, texts("c"), texts("abc"), 0, 0})
}

// TestEachFI: without and with something held, with and without a gap, one field or several.
func TestEachFI(t *testing.T) {
	three := texts("ab", "cd", "efg")
	cases := []struct {
		held bool
		put
	}{
		{false, put{0, false, texts("ab"), texts("ab"), 0, 0}},
		{false, put{1, false, texts("ab"), nil, 2, 0}},
		{false, put{2, false, texts("ab"), nil, 0, 1}},
		{false, put{3, false, texts("ab"), nil, 0, 0}},
		{false, put{0, false, three, three, 0, 0}},
		{false, put{1, false, three, three[:2], 3, 0}},
		{false, put{2, false, three, three[1:], 0, 1}},
		{false, put{3, false, three, three[1:2], 3, 1}},
		{false, put{0, true, three, three, 0, 0}},
		{false, put{1, true, three, three[:2], 3, 0}},
		{false, put{2, true, three, three[1:], 0, 1}},
		{false, put{3, true, three, three[1:2], 3, 1}},
		{true, put{0, false, texts("ab"), texts("ab"), 0, 1}},
		{true, put{1, false, texts("ab"), nil, 2, 1}},
		{true, put{2, false, texts("ab"), texts("xyzab"), 0, 0}},
		{true, put{3, false, texts("ab"), nil, 5, 0}},
		{true, put{0, true, texts("ab"), texts("ab"), 0, 1}},
		{true, put{1, true, texts("ab"), nil, 2, 1}},
		{true, put{2, true, texts("ab"), nil, 0, 2}},
		{true, put{3, true, texts("ab"), nil, 0, 1}},
		{true, put{0, false, three, three, 0, 1}},
		{true, put{1, false, three, three[:2], 3, 1}},
		{true, put{2, false, three, texts("xyzab", "cd", "efg"), 0, 0}},
		{true, put{3, false, three, texts("xyzab", "cd"), 3, 0}},
		{true, put{0, true, three, three, 0, 1}},
		{true, put{1, true, three, three[:2], 3, 1}},
		{true, put{2, true, three, three[1:], 0, 2}},
		{true, put{3, true, three, three[1:2], 3, 2}},
	}
	for _, c := range cases {
		g := glue.New()
		if c.held {
			wantPut(t, g, put{1, false, texts("xyz"), nil, 3, 0})
		}
		wantPut(t, g, c.put)
	}
}

func TestMostFields(t *testing.T) {
	l := slices.Repeat([]string{"a"}, api.MaxFields)
	g := glue.New()
	wantPut(t, g, put{0, false, l, l, 0, 0})
	wantPut(t, g, put{3, false, l, l[2:], 1, 1})
	wantPut(t, g, put{2, false, l, append(texts("aa"), l[1:]...), 0, 1})
}

// P14.2: what is held has at most MaxSDU bytes

func TestLongestText(t *testing.T) {
	g := glue.New()
	most := long(api.MaxSDU)
	wantPut(t, g, put{0, false, texts(most), texts(most), 0, 0})
	wantPut(t, g, put{1, false, texts(most), nil, api.MaxSDU, 0})
	wantPut(t, g, put{1, false, texts(most[:999]), nil, 999, 1})
	wantPut(t, g, put{2, false, texts(most[999:]), texts(most), 0, 1})
	for i := range 10 {
		fi := 3
		if i == 0 {
			fi = 1
		}
		wantPut(t, g, put{fi, false, texts(most[100*i : 100*i+100]), nil, 100*i + 100, 1})
	}
	wantPut(t, g, put{0, false, texts("b"), texts("b"), 0, 2})
}

func TestTooLong(t *testing.T) {
	over := long(api.MaxSDU + 1)
	for _, field := range []string{over, long(5000), long(1 << 20)} {
		g := glue.New()
		// it begins a text: it is held, and lost
		wantPut(t, g, put{0, false, texts(field), nil, 0, 1})
		wantPut(t, g, put{1, false, texts(field), nil, 0, 2})
		// it does not, and nothing is held
		wantPut(t, g, put{3, false, texts(field), nil, 0, 2})
		wantPut(t, g, put{2, false, texts(field), nil, 0, 3})
		// it stands behind what is held
		wantPut(t, g, put{1, false, texts("ab"), nil, 2, 3})
		wantPut(t, g, put{2, false, texts(field), nil, 0, 4})
		wantPut(t, g, put{1, false, texts("ab"), nil, 2, 4})
		wantPut(t, g, put{3, false, texts(field), nil, 0, 5})
		// what is held is lost, as it begins a text, and so is it
		wantPut(t, g, put{1, false, texts("ab"), nil, 2, 5})
		wantPut(t, g, put{0, false, texts(field), nil, 0, 7})
		// the others of the same packet are told
		wantPut(t, g, put{0, false, texts("a", field, "b"), texts("a", "b"), 0, 8})
	}
}

func TestTooLongTogether(t *testing.T) {
	most := long(api.MaxSDU)
	g := glue.New()
	wantPut(t, g, put{1, false, texts(most), nil, api.MaxSDU, 0})
	wantPut(t, g, put{2, false, texts("a"), nil, 0, 1})
	wantPut(t, g, put{1, false, texts(most), nil, api.MaxSDU, 1})
	wantPut(t, g, put{3, false, texts("a"), nil, 0, 2})
	// nothing is held any more: what follows is passed over, and its end lost
	wantPut(t, g, put{3, false, texts("b"), nil, 0, 2})
	wantPut(t, g, put{2, false, texts("c", "d"), texts("d"), 0, 3})
	wantPut(t, g, put{1, false, texts(most[:600]), nil, 600, 3})
	wantPut(t, g, put{3, false, texts(most[600:]), nil, api.MaxSDU, 3})
	wantPut(t, g, put{3, false, texts("e", "f"), texts(), 1, 4})
}

// P14.2: errors

func TestWrong(t *testing.T) {
	g := glue.New()
	wantPut(t, g, put{1, false, texts("ab"), nil, 2, 0})
	wantPut(t, g, put{1, false, texts("cd"), nil, 2, 1})
	for _, gap := range []bool{false, true} {
		for _, fi := range append(fis, 0, 1, 2, 3) {
			l := [][]string{
				nil, {}, {""}, {"", "a"}, {"a", ""}, {"a", "", "b"}, {"", ""},
				append(slices.Repeat([]string{"a"}, api.MaxFields-1), ""),
				slices.Repeat([]string{"a"}, api.MaxFields+1),
				make([]string, api.MaxFields+1), make([]string, 1000),
			}
			if fi < 0 || fi > 3 {
				l = append(l, texts("a"), texts("a", "b"), slices.Repeat([]string{"a"}, api.MaxFields))
			}
			for _, fields := range l {
				wantTold(t, g, put{fi, gap, fields, nil, 2, 1}, api.ErrArg)
			}
		}
	}
	wantPut(t, g, put{2, false, texts("e"), texts("cde"), 0, 1})
}

func TestNilField(t *testing.T) {
	g := glue.New()
	for _, l := range [][][]byte{{nil}, {[]byte("a"), nil}, {nil, []byte("a")}} {
		if told, e := g.Put(0, l, false); e != api.ErrArg || len(told) != 0 {
			t.Errorf("Put of %q: %q %v", l, told, e)
		}
	}
	wantState(t, g, 0, 0)
}

// P14.2: against all that came, written down as one text, in which what is told is found

// written is a packet: a bar for a gap, and of each field a bracket, if it begins a text, else a dot, its bytes, and a bracket, if it ends one.
func written(fi int, fields []string, gap bool) string {
	all := ""
	if gap {
		all = "|"
	}
	for i, field := range fields {
		if i > 0 || fi == 0 || fi == 1 {
			all += "("
		} else {
			all += "."
		}
		all += field
		if i < len(fields)-1 || fi == 0 || fi == 2 {
			all += ")"
		}
	}
	return all
}

var (
	told = regexp.MustCompile(`\([a-z]+(\.[a-z]+)*\)`)
	held = regexp.MustCompile(`\([a-z]+(\.[a-z]+)*$`)
	bare = regexp.MustCompile(`[^a-z]`)
)

func TestAgainstWhatIsWritten(t *testing.T) {
	for seed := range int64(300) {
		r := rand.New(rand.NewSource(seed))
		g, all, tells := glue.New(), "", 0
		for range 60 {
			p := put{fi: r.Intn(4), gap: r.Intn(4) == 0}
			for range 1 + r.Intn(4) {
				b := make([]byte, 1+r.Intn(3))
				for i := range b {
					b[i] = 'a' + byte(r.Intn(26))
				}
				p.fields = append(p.fields, string(b))
			}
			all += written(p.fi, p.fields, p.gap)
			found := told.FindAllString(all, -1)
			for _, text := range found[tells:] {
				p.texts = append(p.texts, bare.ReplaceAllString(text, ""))
			}
			tells = len(found)
			// each beginning is told, held or lost, and each end is told or lost
			holds := held.FindString(all)
			p.held = len(bare.ReplaceAllString(holds, ""))
			p.lost = strings.Count(all, "(") + strings.Count(all, ")") - 2*tells
			if p.held > 0 {
				p.lost--
			}
			wantPut(t, g, p)
		}
	}
}

// P14.3

// sender is a queue of unlike texts, that is cut.
type sender struct {
	q    *queue.Queue
	all  [][]byte
	ends []int // where in all bytes they end
	next int   // how many bytes were taken
}

func newSender(t *testing.T, r *rand.Rand, many, longest int) *sender {
	t.Helper()
	q, _ := queue.New(api.MaxBytes)
	s := &sender{q: q}
	at := 0
	for i := range many {
		b := make([]byte, 2+r.Intn(longest-1))
		r.Read(b)
		b[0], b[1] = byte(i), byte(len(b))
		if _, e := q.Push(b); e != api.OK {
			t.Fatalf("Push: %v", e)
		}
		at += len(b)
		s.all, s.ends = append(s.all, b), append(s.ends, at)
	}
	return s
}

// piece is the next piece, and the places of the texts that it has something of.
func (s *sender) piece(t *testing.T, room, width int) (cut.Piece, []int) {
	t.Helper()
	p, e := cut.Build(s.q, room, width)
	if e != api.OK {
		t.Fatalf("Build: %v", e)
	}
	first, _ := slices.BinarySearch(s.ends, s.next+1)
	has := make([]int, len(p.Fields))
	for i, f := range p.Fields {
		has[i] = first + i
		s.next += len(f)
	}
	return p, has
}

// begun is how many bytes of the text at which the sender is were taken.
func (s *sender) begun() int {
	at := 0
	for _, end := range s.ends {
		if end <= s.next {
			at = end
		}
	}
	return s.next - at
}

func TestPiecesGoBack(t *testing.T) {
	for seed := range int64(90) {
		r := rand.New(rand.NewSource(seed))
		longest := []int{3, 30, 300}[seed%3]
		s, g := newSender(t, r, 60, longest), glue.New()
		var got [][]byte
		for s.q.Bytes() > 0 {
			p, _ := s.piece(t, 1+r.Intn(3*longest), []int{11, 15}[r.Intn(2)])
			l, e := g.Put(p.FI, p.Fields, false)
			if e != api.OK || len(l) != len(p.Done) {
				t.Fatalf("Put: %d texts, want %d, %v", len(l), len(p.Done), e)
			}
			got = append(got, l...)
			wantState(t, g, s.begun(), 0)
		}
		if !slices.EqualFunc(got, s.all, bytes.Equal) {
			t.Fatalf("%d texts told of %d", len(got), len(s.all))
		}
	}
}

func TestLongestTextsGoBack(t *testing.T) {
	for _, room := range []int{1, 2, 333, 999, 1000, 1001, 2999, api.MaxPDU} {
		q, _ := queue.New(api.MaxBytes)
		g, got := glue.New(), 0
		for i := range 5 {
			text := []byte(long(api.MaxSDU))
			text[500] = byte(i)
			q.Push(text)
		}
		for q.Bytes() > 0 {
			p, _ := cut.Build(q, room, 11)
			l, e := g.Put(p.FI, p.Fields, false)
			for _, text := range l {
				if e != api.OK || len(text) != api.MaxSDU || text[500] != byte(got) {
					t.Fatalf("of the room %d the text %d: %d bytes, %v", room, got, len(text), e)
				}
				got++
			}
		}
		if got != 5 {
			t.Fatalf("of the room %d: %d texts", room, got)
		}
		wantState(t, g, 0, 0)
	}
}

// P14.4

func TestMissingPieces(t *testing.T) {
	for seed := range int64(300) {
		r := rand.New(rand.NewSource(seed))
		longest := []int{3, 30, 300}[seed%3]
		s, g := newSender(t, r, 60, longest), glue.New()
		cuts := make([]bool, len(s.all)) // of which texts something is missing
		var got, want [][]byte
		gap := false
		for s.q.Bytes() > 0 {
			p, has := s.piece(t, 1+r.Intn(3*longest), 11)
			if r.Intn(int(2+seed%7)) == 0 {
				gap = true
				for _, i := range has {
					cuts[i] = true
				}
				continue
			}
			for i, at := range has {
				if ends := i < len(has)-1 || p.FI&1 == 0; ends && !cuts[at] {
					want = append(want, s.all[at])
				}
			}
			l, e := g.Put(p.FI, p.Fields, gap)
			if e != api.OK {
				t.Fatalf("Put: %v", e)
			}
			got, gap = append(got, l...), false
			if !slices.EqualFunc(got, want, bytes.Equal) {
				t.Fatalf("%d texts told, want %d", len(got), len(want))
			}
		}
	}
}

// TestGapsOfNothing: a gap that nothing is missing at loses what is held, and no more.
func TestGapsOfNothing(t *testing.T) {
	g := glue.New()
	wantPut(t, g, put{0, true, texts("ab"), texts("ab"), 0, 0})
	wantPut(t, g, put{1, true, texts("ab"), nil, 2, 0})
	wantPut(t, g, put{3, true, texts("cd"), nil, 0, 1})
	wantPut(t, g, put{3, true, texts("ef"), nil, 0, 1})
	wantPut(t, g, put{2, true, texts("gh"), nil, 0, 2})
	wantPut(t, g, put{0, true, texts("ij"), texts("ij"), 0, 2})
}

// rules 4 and 5 of the document

func TestPutKeepsNothing(t *testing.T) {
	g := glue.New()
	under := []byte("abcdef")
	l := [][]byte{under[:1], under[1:3], under[4:]}
	if told, e := g.Put(1, l[:2], false); e != api.OK || len(told) != 1 || string(told[0]) != "a" {
		t.Fatalf("Put: %q %v", told, e)
	}
	if string(under) != "abcdef" || string(l[2]) != "ef" {
		t.Errorf("what was handed in is changed: %q", under)
	}
	copy(under, "xxxxxx")
	wantPut(t, g, put{3, false, texts("g"), nil, 3, 0})
	wantPut(t, g, put{2, false, texts("h"), texts("bcgh"), 0, 0})
	if string(under) != "xxxxxx" {
		t.Errorf("what was handed in is changed: %q", under)
	}
}

func TestWhatIsHandedOutIsNewMemory(t *testing.T) {
	g := glue.New()
	in := bytesOf("ab", "cd", "ef")
	first, _ := g.Put(1, in, false)
	for _, b := range first {
		if cap(b) != len(b) {
			t.Errorf("%q has room for %d behind", b, cap(b)-len(b))
		}
		_ = append(b, 'y')
		for i := range b {
			b[i] = 'x'
		}
	}
	if string(bytes.Join(in, nil)) != "abcdef" {
		t.Errorf("Put shares its memory: %q", in)
	}
	second, _ := g.Put(2, bytesOf("gh"), false)
	third, _ := g.Put(1, bytesOf("ij", "kl"), false)
	fourth, _ := g.Put(2, bytesOf("mn", "op"), false)
	all := slices.Concat(first, second, third, fourth)
	if want := bytesOf("xx", "xx", "efgh", "ij", "klmn", "op"); !slices.EqualFunc(all, want, bytes.Equal) {
		t.Errorf("told %q, want %q", all, want)
	}
}

func TestListsHaveNoRoomBehind(t *testing.T) {
	for many := 1; many <= api.MaxFields; many++ {
		l, _ := glue.New().Put(0, slices.Repeat([][]byte{{1}}, many), false)
		if len(l) != many || cap(l) != many {
			t.Errorf("of %d texts: %d, and room for %d", many, len(l), cap(l))
		}
	}
}
