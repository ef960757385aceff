package pdu_test

import (
	"bytes"
	"math"
	"math/rand"
	"strconv"
	"testing"

	"bowline/amd"
	"bowline/api"
	"bowline/pdu"
	"bowline/status"
	"bowline/umd"
)

// Kinds of a unit, as the document numbers them.
const (
	kindRaw = 0
	kindUm  = 1
	kindAm  = 2
	kindSt  = 3
)

var modes = []int{api.TM, api.UM, api.AM}

// wrongModes is modes that are none.
var wrongModes = []int{-1, 3, 4, 255, 256, -2, math.MinInt, math.MaxInt, 1 << 32, 1<<32 + 1}

// part is a field of a config, and what it is from and to in one that may be.
type part struct {
	name     string
	from, to int
}

// parts is what a config of a mode has, beside the mode, if its numbers have so many bits.
func parts(mode, bits int) []part {
	l := []part{{"QueueBytes", 1, 20000}}
	if mode == api.TM {
		return append(l, unused("Bits", "Window", "Reorder", "PollRetx", "Prohibit", "PollPDU", "PollByte", "MaxRetx")...)
	}
	window := map[int]int{5: 16, 10: 512, 16: 32768}[bits]
	l = append(l, part{"Window", 1, window}, part{"Reorder", 1, 1000})
	if mode == api.UM {
		return append(l, unused("PollRetx", "Prohibit", "PollPDU", "PollByte", "MaxRetx")...)
	}
	return append(l,
		part{"PollRetx", 1, 1000},
		part{"Prohibit", 0, 1000},
		part{"PollPDU", 1, 1000},
		part{"PollByte", 1, 20000},
		part{"MaxRetx", 1, 32},
	)
}

// unused is parts that are 0.
func unused(names ...string) []part {
	var l []part
	for _, name := range names {
		l = append(l, part{name: name})
	}
	return l
}

// of is a part's place in a config.
func (p part) of(c *api.Config) *int {
	return map[string]*int{
		"Bits": &c.Bits, "Window": &c.Window, "Reorder": &c.Reorder,
		"PollRetx": &c.PollRetx, "Prohibit": &c.Prohibit, "PollPDU": &c.PollPDU,
		"PollByte": &c.PollByte, "MaxRetx": &c.MaxRetx, "QueueBytes": &c.QueueBytes,
	}[p.name]
}

// bitsOf is how many bits numbers of a mode may have.
func bitsOf(mode int) []int {
	return map[int][]int{api.TM: {0}, api.UM: {5, 10}, api.AM: {10, 16}}[mode]
}

// right is configs that may be, one of each mode and of each number of bits.
func right() []api.Config {
	return []api.Config{
		{Mode: 0, QueueBytes: 5000},
		{Mode: 1, Bits: 5, Window: 16, Reorder: 4, QueueBytes: 5000},
		{Mode: 1, Bits: 10, Window: 300, Reorder: 4, QueueBytes: 5000},
		{Mode: 2, Bits: 10, Window: 512, Reorder: 4, PollRetx: 8, Prohibit: 3, PollPDU: 4, PollByte: 500, MaxRetx: 4, QueueBytes: 5000},
		{Mode: 2, Bits: 16, Window: 513, Reorder: 4, PollRetx: 8, Prohibit: 3, PollPDU: 4, PollByte: 500, MaxRetx: 4, QueueBytes: 5000},
	}
}

// wrongOnes is configs of a mode that may not be, with what Check answers.
func wrongOnes() map[api.Config]api.Errno {
	l := map[api.Config]api.Errno{{}: api.ErrArg}
	for _, c := range right() {
		d := c
		d.QueueBytes = 0
		l[d] = api.ErrArg
		for _, mode := range wrongModes {
			d := c
			d.Mode = mode
			l[d] = api.ErrKind
		}
	}
	return l
}

// of is the config of right of a mode and a number of bits.
func of(mode, bits int) api.Config {
	for _, c := range right() {
		if c.Mode == mode && c.Bits == bits {
			return c
		}
	}
	return api.Config{}
}

func wantCheck(t *testing.T, c api.Config, e api.Errno) {
	t.Helper()
	if f := pdu.Check(c); f != e {
		t.Fatalf("Check(%+v): %v, want %v", c, f, e)
	}
}

func same(a, b pdu.Unit) bool {
	return a.Kind == b.Kind && bytes.Equal(a.Raw, b.Raw) &&
		umd.Same(a.Um, b.Um) && amd.Same(a.Am, b.Am) && status.Same(a.St, b.St)
}

func wantRead(t *testing.T, c api.Config, b []byte, want pdu.Unit, e api.Errno) {
	t.Helper()
	u, f := pdu.Read(c, b)
	if !same(u, want) || f != e {
		t.Fatalf("Read(%+v, %x): %v %v, want %v %v", c, b, u, f, want, e)
	}
}

func wantError(t *testing.T, c api.Config, b []byte, e api.Errno) {
	t.Helper()
	wantRead(t, c, b, pdu.Unit{}, e)
}

func wantWrite(t *testing.T, c api.Config, u pdu.Unit, want []byte, e api.Errno) {
	t.Helper()
	b, f := pdu.Write(c, u)
	if !bytes.Equal(b, want) || f != e {
		t.Fatalf("Write(%+v, %v): %x %v, want %x %v", c, u, b, f, want, e)
	}
}

// wantThereAndBack wants that a unit is written as these bytes, and they are read as it.
func wantThereAndBack(t *testing.T, c api.Config, u pdu.Unit, b []byte) {
	t.Helper()
	wantWrite(t, c, u, b, api.OK)
	wantRead(t, c, b, u, api.OK)
}

// sample is packets and a status that may be of any bearer that has them, and a text.
func sample() (um umd.Packet, am amd.Packet, st status.Status, raw []byte) {
	um = umd.Packet{FI: 2, SN: 3, Fields: [][]byte{[]byte("ab"), []byte("c")}}
	am = amd.Packet{Poll: true, FI: 1, SN: 300, Part: true, Last: true, Offset: 7, Fields: [][]byte{[]byte("de"), []byte("f")}}
	st = status.Status{Ack: 9, Misses: []status.Miss{{SN: 5}, {SN: 7, Part: true, From: 1, To: 3}}}
	return um, am, st, []byte("ghi")
}

// full is a unit that has something of each Kind.
func full(kind int) pdu.Unit {
	u := pdu.Unit{Kind: kind}
	u.Um, u.Am, u.St, u.Raw = sample()
	return u
}

// only is a unit that has something of its Kind alone.
func only(kind int) pdu.Unit {
	u, v := full(kind), pdu.Unit{Kind: kind}
	switch kind {
	case kindRaw:
		v.Raw = u.Raw
	case kindUm:
		v.Um = u.Um
	case kindAm:
		v.Am = u.Am
	case kindSt:
		v.St = u.St
	}
	return v
}

// bytesOf is sample's bytes of a Kind, as its layer writes them.
func bytesOf(kind, width int) []byte {
	um, am, st, raw := sample()
	var b []byte
	switch kind {
	case kindRaw:
		b = raw
	case kindUm:
		b, _ = umd.Write(um, width)
	case kindAm:
		b, _ = amd.Write(am, width)
	case kindSt:
		b, _ = status.Write(st, width)
	}
	return b
}

// kindsOf is the Kinds of a mode's units.
func kindsOf(mode int) []int {
	return map[int][]int{api.TM: {kindRaw}, api.UM: {kindUm}, api.AM: {kindAm, kindSt}}[mode]
}

// P12.1

func TestUsual(t *testing.T) {
	for mode, want := range []api.Config{
		{Mode: 0, QueueBytes: 5000},
		{Mode: 1, Bits: 5, Window: 16, Reorder: 4, QueueBytes: 5000},
		{Mode: 2, Bits: 10, Window: 512, Reorder: 4, PollRetx: 8, Prohibit: 3, PollPDU: 4, PollByte: 500, MaxRetx: 4, QueueBytes: 5000},
	} {
		if c := pdu.Usual(mode); c != want {
			t.Errorf("Usual(%d): %+v, want %+v", mode, c, want)
		}
		wantCheck(t, pdu.Usual(mode), api.OK)
	}
	for _, mode := range wrongModes {
		if c := pdu.Usual(mode); c != (api.Config{}) {
			t.Errorf("Usual(%d): %+v, want nothing", mode, c)
		}
	}
}

func TestCheckOfRightOnes(t *testing.T) {
	for _, c := range right() {
		wantCheck(t, c, api.OK)
	}
}

func TestCheckOfModes(t *testing.T) {
	for _, mode := range wrongModes {
		wantCheck(t, api.Config{Mode: mode}, api.ErrKind)
		for _, c := range right() {
			c.Mode = mode
			wantCheck(t, c, api.ErrKind)
			c.QueueBytes = -1
			wantCheck(t, c, api.ErrKind)
		}
	}
	for _, mode := range modes {
		wantCheck(t, api.Config{Mode: mode}, api.ErrArg)
	}
}

func TestCheckOfEachPart(t *testing.T) {
	for _, c := range right() {
		for _, p := range parts(c.Mode, c.Bits) {
			for _, v := range []int{p.from, min(p.from+1, p.to), (p.from + p.to) / 2, max(p.to-1, p.from), p.to} {
				d := c
				*p.of(&d) = v
				if e := pdu.Check(d); e != api.OK {
					t.Errorf("%s is %d: Check(%+v): %v", p.name, v, d, e)
				}
			}
			for _, v := range []int{p.from - 1, p.to + 1, p.from - 2, p.to + 2, -1, -5, math.MinInt, math.MaxInt, 1<<32 + p.from} {
				d := c
				*p.of(&d) = v
				if e := pdu.Check(d); e != api.ErrArg {
					t.Errorf("%s is %d: Check(%+v): %v", p.name, v, d, e)
				}
			}
		}
	}
}

func TestCheckOfBits(t *testing.T) {
	for _, c := range right() {
		may := map[int]bool{}
		for _, n := range bitsOf(c.Mode) {
			may[n] = true
		}
		c.Window = min(c.Window, 16) // of any number of bits
		for _, n := range []int{0, 1, 4, 5, 6, 8, 9, 10, 11, 12, 15, 16, 17, 32, 64, 65, -1, -5, -10, -16, math.MinInt, math.MaxInt, 5 + 1<<32} {
			e := api.ErrArg
			if may[n] {
				e = api.OK
			}
			c.Bits = n
			wantCheck(t, c, e)
		}
	}
}

func TestCheckOfWindows(t *testing.T) {
	for _, c := range []struct{ mode, bits, most int }{
		{api.UM, 5, 16}, {api.UM, 10, 512}, {api.AM, 10, 512}, {api.AM, 16, 32768},
	} {
		d := of(c.mode, c.bits)
		for v := -3; v < c.most+5; v++ {
			e := api.OK
			if v < 1 || v > c.most {
				e = api.ErrArg
			}
			d.Window = v
			wantCheck(t, d, e)
		}
	}
}

func TestCheckOfSeveralParts(t *testing.T) {
	r := rand.New(rand.NewSource(12))
	met := map[api.Errno]int{}
	for range 20000 {
		c := right()[r.Intn(5)]
		want := api.OK
		for _, p := range parts(c.Mode, c.Bits) {
			v := []int{p.from, p.to, p.from + r.Intn(p.to-p.from+1)}[r.Intn(3)]
			if r.Intn(20) == 0 {
				v = []int{p.from - 1 - r.Intn(3), p.to + 1 + r.Intn(1000)}[r.Intn(2)]
				want = api.ErrArg
			}
			*p.of(&c) = v
		}
		wantCheck(t, c, want)
		met[want]++
	}
	if met[api.OK] < 100 || met[api.ErrArg] < 100 {
		t.Errorf("met: %v", met)
	}
}

// P12.2

func TestExample(t *testing.T) {
	want := pdu.Unit{Kind: kindSt, St: status.Status{Ack: 5}}
	wantThereAndBack(t, of(api.AM, 10), want, []byte{0x00, 0x14})
	wantThereAndBack(t, pdu.Usual(api.AM), want, []byte{0x00, 0x14})
}

func TestBytes(t *testing.T) {
	one := [][]byte{{0x41}}
	for _, c := range []struct {
		config api.Config
		u      pdu.Unit
		want   string
	}{
		{of(api.TM, 0), pdu.Unit{Kind: kindRaw, Raw: []byte("A")}, "A"},
		{of(api.UM, 5), pdu.Unit{Kind: kindUm, Um: umd.Packet{SN: 3, Fields: one}}, "\x03A"},
		{of(api.UM, 10), pdu.Unit{Kind: kindUm, Um: umd.Packet{SN: 3, Fields: one}}, "\x00\x03A"},
		{of(api.AM, 10), pdu.Unit{Kind: kindAm, Am: amd.Packet{SN: 5, Fields: one}}, "\x80\x05A"},
		{of(api.AM, 16), pdu.Unit{Kind: kindAm, Am: amd.Packet{SN: 5, Fields: one}}, "\x80\x00\x05A"},
		{of(api.AM, 16), pdu.Unit{Kind: kindSt, St: status.Status{Ack: 5}}, "\x00\x00\x50"},
	} {
		wantThereAndBack(t, c.config, c.u, []byte(c.want))
	}
}

func TestEachKind(t *testing.T) {
	for _, c := range right() {
		for kind := range 4 {
			b := bytesOf(kind, c.Bits)
			mine := false
			for _, k := range kindsOf(c.Mode) {
				mine = mine || k == kind
			}
			if !mine {
				wantWrite(t, c, full(kind), nil, api.ErrState)
				wantWrite(t, c, only(kind), nil, api.ErrState)
				continue
			}
			wantThereAndBack(t, c, only(kind), b)
			wantWrite(t, c, full(kind), b, api.OK)
		}
	}
}

func TestWrongKinds(t *testing.T) {
	for _, c := range right() {
		for _, kind := range []int{-1, 4, 5, 255, 256, math.MinInt, math.MaxInt, 1 << 32, 1<<32 + 2} {
			wantWrite(t, c, full(kind), nil, api.ErrState)
			wantWrite(t, c, pdu.Unit{Kind: kind}, nil, api.ErrState)
		}
	}
}

func TestConfigsThatMayNotBe(t *testing.T) {
	for c, e := range wrongOnes() {
		for kind := -1; kind < 5; kind++ {
			wantWrite(t, c, full(kind), nil, e)
			wantWrite(t, c, pdu.Unit{Kind: kind}, nil, e)
		}
		for _, b := range [][]byte{nil, {}, {0}, []byte("ab"), {0x00, 0x14}, {0x80, 0x05, 0x41}, make([]byte, 5000)} {
			wantError(t, c, b, e)
		}
	}
}

func TestTexts(t *testing.T) {
	c := of(api.TM, 0)
	wantError(t, c, nil, api.ErrShort)
	wantError(t, c, []byte{}, api.ErrShort)
	wantWrite(t, c, pdu.Unit{}, nil, api.ErrForm)
	wantWrite(t, c, pdu.Unit{Raw: []byte{}}, nil, api.ErrForm)
	for n := 1; n < 1100; n++ {
		b := bytes.Repeat([]byte{byte(n), 0x80, 0}, n)[:n]
		if n > api.MaxSDU {
			wantError(t, c, b, api.ErrLong)
			wantWrite(t, c, pdu.Unit{Raw: b}, nil, api.ErrForm)
			continue
		}
		wantThereAndBack(t, c, pdu.Unit{Raw: b}, b)
	}
	wantError(t, c, make([]byte, 1<<20), api.ErrLong)
	wantWrite(t, c, pdu.Unit{Raw: make([]byte, 1<<20)}, nil, api.ErrForm)
	for v := range 256 {
		wantThereAndBack(t, c, pdu.Unit{Raw: []byte{byte(v)}}, []byte{byte(v)})
	}
}

// layer is what the layers' Read tell of bytes.
func layer(c api.Config, b []byte) (pdu.Unit, api.Errno) {
	var u pdu.Unit
	var e api.Errno
	switch {
	case c.Mode == api.UM:
		u.Um, e = umd.Read(b, c.Bits)
		u.Kind = kindUm
	case len(b) == 0 || b[0] >= 128:
		u.Am, e = amd.Read(b, c.Bits)
		u.Kind = kindAm
	default:
		u.St, e = status.Read(b, c.Bits)
		u.Kind = kindSt
	}
	if e != api.OK {
		return pdu.Unit{}, e
	}
	return u, api.OK
}

func TestReadErrors(t *testing.T) {
	for _, c := range []struct {
		config api.Config
		b      string
		e      api.Errno
	}{
		{of(api.UM, 5), "", api.ErrShort},
		{of(api.UM, 5), "\x03", api.ErrShort},
		{of(api.UM, 5), "\x23\x00\x00A", api.ErrForm},
		{of(api.UM, 10), "\x20\x03A", api.ErrForm},
		{of(api.UM, 10), string(make([]byte, 4001)), api.ErrLong},
		{of(api.AM, 10), "", api.ErrShort},
		{of(api.AM, 10), "\x80\x05", api.ErrShort},
		{of(api.AM, 16), "\x81\x00\x05A", api.ErrForm},
		{of(api.AM, 16), "\x80" + string(make([]byte, 4000)), api.ErrLong},
		{of(api.AM, 10), "\x00", api.ErrShort},
		{of(api.AM, 10), "\x10\x14", api.ErrForm},
		{of(api.AM, 10), "\x00\x15", api.ErrForm},
		{of(api.AM, 10), "\x00\x14\x00", api.ErrForm},
		{of(api.AM, 10), "\x0f" + string(bytes.Repeat([]byte{0xFF}, 300)), api.ErrLong},
		{of(api.AM, 10), string(make([]byte, 4001)), api.ErrForm},
	} {
		wantError(t, c.config, []byte(c.b), c.e)
	}
}

func TestReadOfAllShortBytes(t *testing.T) {
	for v := range 1 << 16 {
		for _, c := range right()[1:] {
			for _, behind := range []string{"", "A", "\x00\x10AB"} {
				b := append([]byte{byte(v >> 8), byte(v)}, behind...)
				u, e := layer(c, b)
				wantRead(t, c, b, u, e)
			}
		}
	}
	for v := range 256 {
		for _, c := range right()[1:] {
			u, e := layer(c, []byte{byte(v)})
			wantRead(t, c, []byte{byte(v)}, u, e)
		}
	}
}

func TestWriteErrors(t *testing.T) {
	for _, c := range right()[1:] {
		for _, kind := range kindsOf(c.Mode) {
			u := full(kind)
			u.Um.SN, u.Am.SN, u.St.Ack = 1<<c.Bits, 1<<c.Bits, 1<<c.Bits
			wantWrite(t, c, u, nil, api.ErrForm)
			u = full(kind)
			u.Um.Fields, u.Am.Fields, u.St.Misses = nil, nil, make([]status.Miss, api.MaxNacks+1)
			wantWrite(t, c, u, nil, api.ErrForm)
		}
	}
}

func TestWhatIsNotOfAKindIsNotAsked(t *testing.T) {
	for _, c := range right() {
		for _, kind := range kindsOf(c.Mode) {
			u := only(kind)
			if kind != kindRaw {
				u.Raw = make([]byte, api.MaxSDU+1)
			}
			if kind != kindUm {
				u.Um = umd.Packet{FI: -1, SN: -1, Fields: make([][]byte, 100)}
			}
			if kind != kindAm {
				u.Am = amd.Packet{FI: 9, SN: -1, Offset: -1, Last: true}
			}
			if kind != kindSt {
				u.St = status.Status{Ack: -1, Misses: make([]status.Miss, 100)}
			}
			wantWrite(t, c, u, bytesOf(kind, c.Bits), api.OK)
		}
	}
}

// P12.3

func TestThereAndBack(t *testing.T) {
	r := rand.New(rand.NewSource(123))
	for range 5000 {
		c := right()[r.Intn(5)]
		kinds := kindsOf(c.Mode)
		u := anyUnit(r, kinds[r.Intn(len(kinds))], c.Bits)
		b, e := pdu.Write(c, u)
		if e != api.OK {
			t.Fatalf("Write(%+v, %v): %v", c, u, e)
		}
		wantRead(t, c, b, u, api.OK)
	}
}

// anyUnit is a unit that may be.
func anyUnit(r *rand.Rand, kind, width int) pdu.Unit {
	u := pdu.Unit{Kind: kind}
	var fields [][]byte
	for i := range 1 + r.Intn(api.MaxFields) {
		fields = append(fields, []byte(strconv.Itoa(i*r.Intn(1000))))
	}
	switch kind {
	case kindRaw:
		u.Raw = bytes.Join(fields, nil)
	case kindUm:
		u.Um = umd.Packet{FI: r.Intn(4), SN: r.Intn(1 << width), Fields: fields}
	case kindAm:
		u.Am = amd.Packet{Poll: r.Intn(2) == 0, FI: r.Intn(4), SN: r.Intn(1 << width), Fields: fields}
		if r.Intn(2) == 0 {
			u.Am.Part, u.Am.Last, u.Am.Offset = true, r.Intn(2) == 0, r.Intn(1<<15)
		}
	case kindSt:
		u.St.Ack = r.Intn(1 << width)
		for range r.Intn(api.MaxNacks + 1) {
			m := status.Miss{SN: r.Intn(1 << width)}
			if r.Intn(2) == 0 {
				m.Part, m.From, m.To = true, r.Intn(100), 100*r.Intn(2)
			}
			u.St.Misses = append(u.St.Misses, m)
		}
	}
	return u
}

func TestInOneWayAlone(t *testing.T) {
	met := map[int]int{}
	for v := range 1 << 16 {
		b := []byte{byte(v >> 8), byte(v), byte(v % 3 * 8), 0x10, 0x41, 0x42}
		for _, c := range right() {
			for n := 1; n <= len(b); n++ {
				u, e := pdu.Read(c, b[:n])
				if e != api.OK {
					continue
				}
				met[u.Kind]++
				wantWrite(t, c, u, b[:n], api.OK)
			}
		}
	}
	for kind := range 4 {
		if met[kind] < 100 {
			t.Errorf("met: %v", met)
		}
	}
}

// rules 3, 4 and 5 of the document

func TestWhatIsHandedInStays(t *testing.T) {
	for _, c := range right() {
		for _, kind := range kindsOf(c.Mode) {
			u := full(kind)
			under := []byte("ghijkl")
			u.Raw = under[:3]
			b := append(bytesOf(kind, c.Bits), "xyz"...)
			was := bytes.Clone(b)
			wantWrite(t, c, u, b[:len(b)-3], api.OK)
			got, e := pdu.Read(c, b[:len(b)-3])
			if e != api.OK || !same(got, only(kind)) {
				t.Fatalf("Read: %v %v", got, e)
			}
			spoil(got)
			if !bytes.Equal(b, was) || string(under) != "ghijkl" || !same(u, full(kind)) {
				t.Errorf("what was handed in is changed: %x %s %v", b, under, u)
			}
		}
	}
}

// spoil changes all that a unit has, and what would lie behind it.
func spoil(u pdu.Unit) {
	for _, f := range append(append([][]byte{u.Raw}, u.Um.Fields...), u.Am.Fields...) {
		clear(f)
		_ = append(f, 'z', 'z', 'z')
	}
	clear(u.St.Misses)
}

func TestWhatIsHandedOutIsNewMemory(t *testing.T) {
	for _, c := range right() {
		for _, kind := range kindsOf(c.Mode) {
			u := only(kind)
			one, _ := pdu.Write(c, u)
			two, _ := pdu.Write(c, u)
			got, _ := pdu.Read(c, one)
			clear(one)
			if !bytes.Equal(two, bytesOf(kind, c.Bits)) {
				t.Errorf("Write shares its memory: %x", two)
			}
			if !same(u, only(kind)) {
				t.Errorf("Write shares its memory with what it is given: %v", u)
			}
			if !same(got, only(kind)) {
				t.Errorf("Read shares its memory with what it is given: %v", got)
			}
			if cap(two) != len(two) || cap(got.Raw) != len(got.Raw) {
				t.Errorf("there is room behind: %d, %d", cap(two)-len(two), cap(got.Raw)-len(got.Raw))
			}
		}
	}
}
