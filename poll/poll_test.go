package poll_test

import (
	"math"
	"math/rand"
	"reflect"
	"slices"
	"testing"

	"bowline/api"
	"bowline/poll"
)

const most = 1000 // a limit of packets

// noSizes is what no packet has.
var noSizes = []int{-1, -2, api.MaxPDU + 1, 1 << 32, math.MinInt, math.MaxInt}

// of is a poller.
func of(t *testing.T, packets, bytes int) *poll.Poller {
	t.Helper()
	p, e := poll.New(packets, bytes)
	if p == nil || e != api.OK {
		t.Fatalf("New(%d, %d): %v", packets, bytes, e)
	}
	wantSince(t, p, 0, 0)
	return p
}

func wantSince(t *testing.T, p *poll.Poller, packets, bytes int) {
	t.Helper()
	if n, m := p.Since(); n != packets || m != bytes {
		t.Fatalf("Since: %d %d, want %d %d", n, m, packets, bytes)
	}
}

// wantSent wants that packets of some sizes are counted.
func wantSent(t *testing.T, p *poll.Poller, sizes ...int) {
	t.Helper()
	for _, size := range sizes {
		n, m := p.Since()
		if e := p.Sent(size); e != api.OK {
			t.Fatalf("Sent(%d): %v", size, e)
		}
		wantSince(t, p, n+1, m+size)
	}
}

func wantNoSent(t *testing.T, p *poll.Poller, size int, want api.Errno) {
	t.Helper()
	n, m := p.Since()
	if e := p.Sent(size); e != want {
		t.Fatalf("Sent(%d): %v, want %v", size, e, want)
	}
	wantSince(t, p, n, m)
}

func wantWant(t *testing.T, p *poll.Poller) {
	t.Helper()
	n, m := p.Since()
	if e := p.Want(); e != api.OK {
		t.Fatalf("Want: %v", e)
	}
	wantSince(t, p, n, m)
}

// wantAsk wants that it asks, and then counts anew.
func wantAsk(t *testing.T, p *poll.Poller, empty, stalled bool) {
	t.Helper()
	if !p.Ask(empty, stalled) {
		t.Fatalf("Ask(%v, %v): false", empty, stalled)
	}
	wantSince(t, p, 0, 0)
}

// wantNoAsk wants that it does not ask, and counts on.
func wantNoAsk(t *testing.T, p *poll.Poller) {
	t.Helper()
	n, m := p.Since()
	if p.Ask(false, false) {
		t.Fatalf("it asks behind %d packets of %d bytes", n, m)
	}
	wantSince(t, p, n, m)
}

// P21.1

func TestNew(t *testing.T) {
	right := [][]int{{1, 2, 4, most - 1, most}, {1, 2, 500, api.MaxBytes - 1, api.MaxBytes}}
	wrong := []int{0, -1, math.MinInt, math.MaxInt, 1<<32 + 1}
	refused := func(packets, bytes int) {
		t.Helper()
		if p, e := poll.New(packets, bytes); p != nil || e != api.ErrArg {
			t.Errorf("New(%d, %d): %v %v", packets, bytes, p != nil, e)
		}
	}
	for _, packets := range right[0] {
		for _, bytes := range right[1] {
			wantNoAsk(t, of(t, packets, bytes))
		}
		for _, bytes := range append(wrong, api.MaxBytes+1) {
			refused(packets, bytes)
		}
	}
	for _, packets := range append(wrong, most+1, api.MaxBytes) {
		for _, bytes := range append(right[1], wrong...) {
			refused(packets, bytes)
		}
	}
}

func TestNoPoller(t *testing.T) {
	for _, p := range []*poll.Poller{nil, {}} {
		for range 2 {
			for _, size := range append(noSizes, 0, 1, api.MaxPDU) {
				wantNoSent(t, p, size, api.ErrNil)
			}
			if e := p.Want(); e != api.ErrNil {
				t.Errorf("Want: %v", e)
			}
			for _, is := range []bool{false, true} {
				if p.Ask(is, false) || p.Ask(is, true) {
					t.Errorf("it asks, empty %v", is)
				}
			}
			wantSince(t, p, 0, 0)
			p.Reset()
		}
	}
}

func TestCalls(t *testing.T) {
	var names []string
	for m := range reflect.TypeFor[*poll.Poller]().Methods() {
		names = append(names, m.Name)
	}
	if want := []string{"Ask", "Reset", "Sent", "Since", "Want"}; !slices.Equal(names, want) {
		t.Errorf("the calls %v, want %v", names, want)
	}
}

func TestSent(t *testing.T) {
	p := of(t, most, api.MaxBytes)
	for _, size := range noSizes {
		wantNoSent(t, p, size, api.ErrArg)
	}
	wantSent(t, p, 0, 1, 2, api.MaxPDU-1, api.MaxPDU, 0)
	for _, size := range noSizes {
		wantNoSent(t, p, size, api.ErrArg)
	}
	wantSince(t, p, 6, 2*api.MaxPDU+2)
	wantNoAsk(t, p)
}

// TestSentOfWrongSizesIsNoPacket: what is refused brings no limit nearer.
func TestSentOfWrongSizesIsNoPacket(t *testing.T) {
	p := of(t, 1, 1)
	for _, size := range noSizes {
		wantNoSent(t, p, size, api.ErrArg)
		wantNoAsk(t, p)
	}
}

// TestCountsOn: nobody has to ask when a limit is reached; what is sent is counted beyond it.
func TestCountsOn(t *testing.T) {
	p := of(t, 2, 3)
	for range 5000 {
		wantSent(t, p, api.MaxPDU)
	}
	wantSince(t, p, 5000, 5000*api.MaxPDU)
	wantAsk(t, p, false, false)
	wantNoAsk(t, p)
}

// P21.2

func TestExample(t *testing.T) {
	p := of(t, 2, 100)
	wantSent(t, p, 60)
	wantNoAsk(t, p)
	wantSent(t, p, 30)
	wantAsk(t, p, false, false)
	wantNoAsk(t, p)
}

func TestLimitOfPackets(t *testing.T) {
	for _, limit := range []int{1, 2, 3, 7, most - 1, most} {
		p := of(t, limit, api.MaxBytes)
		for range 3 {
			for range limit - 1 {
				wantSent(t, p, 0)
				wantNoAsk(t, p)
			}
			wantSent(t, p, 0)
			wantAsk(t, p, false, false)
			wantNoAsk(t, p)
		}
		wantSent(t, p, make([]int, limit+1)...) // more than the limit
		wantAsk(t, p, false, false)
	}
}

func TestLimitOfBytes(t *testing.T) {
	for _, limit := range []int{1, 2, 3, 100, api.MaxPDU, api.MaxPDU + 1, api.MaxBytes - 1, api.MaxBytes} {
		p := of(t, most, limit)
		for _, beyond := range []int{0, 1, 3} {
			for left := limit - 1; left > 0; left -= api.MaxPDU {
				wantSent(t, p, min(left, api.MaxPDU))
				wantNoAsk(t, p)
			}
			wantSent(t, p, 0)
			wantNoAsk(t, p) // a byte less than the limit
			wantSent(t, p, 1+beyond)
			wantAsk(t, p, false, false)
			wantNoAsk(t, p)
		}
	}
}

func TestEachReasonAlone(t *testing.T) {
	p := of(t, 3, 10)
	for range 2 {
		for _, two := range [][2]bool{{true, false}, {false, true}, {true, true}} {
			wantAsk(t, p, two[0], two[1]) // whatever was sent
			wantNoAsk(t, p)
			wantSent(t, p, 4, 5)
			wantNoAsk(t, p)
			wantAsk(t, p, two[0], two[1])
			wantNoAsk(t, p)
		}
		wantWant(t, p)
		wantAsk(t, p, false, false)
		wantNoAsk(t, p)
		wantSent(t, p, 9)
		wantNoAsk(t, p)
		wantWant(t, p)
		wantWant(t, p)
		wantAsk(t, p, false, false) // told twice, it asks once
		wantNoAsk(t, p)
	}
}

// TestToldIsAskedOnce: whatever the reason is, what it was told is done then.
func TestToldIsAskedOnce(t *testing.T) {
	for _, ask := range []func(p *poll.Poller){
		func(p *poll.Poller) { wantAsk(t, p, true, false) },
		func(p *poll.Poller) { wantAsk(t, p, false, true) },
		func(p *poll.Poller) { wantSent(t, p, 0, 0); wantAsk(t, p, false, false) },
		func(p *poll.Poller) { wantSent(t, p, 5); wantAsk(t, p, false, false) },
	} {
		p := of(t, 2, 5)
		wantWant(t, p)
		ask(p)
		wantNoAsk(t, p)
		wantSent(t, p, 4)
		wantNoAsk(t, p)
	}
}

func TestReset(t *testing.T) {
	p := of(t, 2, 5)
	p.Reset()
	wantNoAsk(t, p)
	for range 2 {
		wantWant(t, p)
		wantSent(t, p, 4, 3)
		p.Reset()
		wantSince(t, p, 0, 0)
		wantNoAsk(t, p)
		// the limits are as they were
		wantSent(t, p, 4)
		wantNoAsk(t, p)
		wantSent(t, p, 0)
		wantAsk(t, p, false, false)
		wantSent(t, p, 5)
		wantAsk(t, p, false, false)
	}
}

// P21.3

// TestAsksInTime: whatever else is done, it asks at the latest at the limit of packets.
func TestAsksInTime(t *testing.T) {
	for seed := range int64(50) {
		r := rand.New(rand.NewSource(seed))
		limit := 1 + r.Intn(20)
		p := of(t, limit, api.MaxBytes)
		since := 0
		for range 400 {
			if p.Sent(r.Intn(9)) == api.OK {
				since++
			}
			if r.Intn(9) == 0 {
				wantNoSent(t, p, noSizes[r.Intn(len(noSizes))], api.ErrArg)
			}
			asks := p.Ask(r.Intn(9) == 0, r.Intn(9) == 0)
			if since >= limit && !asks {
				t.Fatalf("it does not ask behind %d packets, limit %d", since, limit)
			}
			if asks {
				since = 0
			}
		}
	}
}

// model is a poller, word by word of the document.
type model struct {
	limits, since [2]int
	told          bool
}

func (m *model) ask(empty, stalled bool) bool {
	is := empty || stalled || m.told || m.since[0] >= m.limits[0] || m.since[1] >= m.limits[1]
	if is {
		m.since, m.told = [2]int{}, false
	}
	return is
}

func TestModel(t *testing.T) {
	asked := 0
	for seed := range int64(100) {
		r := rand.New(rand.NewSource(seed))
		m := model{limits: [2]int{1 + r.Intn(12), 1 + r.Intn(100)}}
		p := of(t, m.limits[0], m.limits[1])
		for range 500 {
			switch r.Intn(12) {
			case 0:
				wantWant(t, p)
				m.told = true
			case 1:
				p.Reset()
				m.since, m.told = [2]int{}, false
			case 2, 3, 4, 5:
				empty, stalled := r.Intn(8) == 0, r.Intn(8) == 0
				want := m.ask(empty, stalled)
				if is := p.Ask(empty, stalled); is != want {
					t.Fatalf("Ask(%v, %v): %v, want %v", empty, stalled, is, want)
				}
				if want {
					asked++
				}
			default:
				size := r.Intn(25)
				wantSent(t, p, size)
				m.since[0]++
				m.since[1] += size
			}
			wantSince(t, p, m.since[0], m.since[1])
		}
	}
	if asked < 1000 {
		t.Errorf("it asked %d times", asked)
	}
}

func TestPollersAreTheirOwn(t *testing.T) {
	a, b := of(t, 2, 5), of(t, 2, 5)
	wantSent(t, a, 4)
	wantWant(t, a)
	wantSince(t, b, 0, 0)
	wantNoAsk(t, b)
	wantSent(t, b, 1)
	wantAsk(t, a, false, false)
	wantSince(t, b, 1, 1)
}
