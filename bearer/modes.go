package bearer

import (
	"bowline/am"
	"bowline/api"
	"bowline/pdu"
	"bowline/plain"
	"bowline/umrx"
	"bowline/umtx"
)

// bearer is what a table has its bearers do, whatever their modes are.
type bearer interface {
	Push(b []byte) (uint64, api.Errno)
	Discard(n uint64) api.Errno
	Build(grant int) ([]byte, api.Errno)
	Hear(b []byte) ([][]byte, api.Errno)
	Tick() [][]byte
	Waits() int
	Unsure() int
	Failed() bool
	Bad() int
	Reset() ([][]byte, api.Errno)
}

// begun is a bearer of a config, through which nothing went.
func begun(c api.Config) (bearer, api.Errno) {
	if e := pdu.Check(c); e != api.OK {
		return nil, e
	}
	// None of these refuses what Check lets be.
	switch c.Mode {
	case api.TM:
		x, _ := plain.New(c)
		return &asIs{Entity: x}, api.OK
	case api.UM:
		sender, _ := umtx.New(c)
		receiver, _ := umrx.New(c)
		return unasked{Sender: sender, Receiver: receiver}, api.OK
	}
	x, _ := am.New(c)
	return asked{Entity: x}, api.OK
}

// plainly is what it comes to that nothing is acknowledged, and nothing waited for.
type plainly struct{}

func (plainly) Tick() [][]byte { return nil }
func (plainly) Unsure() int    { return 0 }
func (plainly) Failed() bool   { return false }

// asIs is a bearer of TM.
type asIs struct {
	plainly
	*plain.Entity
	bad int
}

func (x *asIs) Build(grant int) ([]byte, api.Errno) {
	b, _, e := x.Entity.Build(grant)
	return b, e
}

// Hear counts each error, as all of them are pdu's.
func (x *asIs) Hear(b []byte) ([][]byte, api.Errno) {
	text, e := x.Entity.Hear(b)
	if e != api.OK {
		x.bad++
		return nil, e
	}
	return [][]byte{text}, api.OK
}

func (x *asIs) Waits() int { return x.Bytes() }
func (x *asIs) Bad() int   { return x.bad }

func (x *asIs) Reset() ([][]byte, api.Errno) {
	x.Entity.Reset()
	return nil, api.OK
}

// unasked is a bearer of UM.
type unasked struct {
	plainly
	*umtx.Sender
	*umrx.Receiver
}

func (x unasked) Build(grant int) ([]byte, api.Errno) {
	b, _, e := x.Sender.Build(grant)
	return b, e
}

func (x unasked) Tick() [][]byte { return x.Receiver.Tick() }
func (x unasked) Waits() int     { return x.Bytes() }

func (x unasked) Reset() ([][]byte, api.Errno) {
	x.Sender.Reset()
	return x.Receiver.Reset(), api.OK
}

// asked is a bearer of AM.
type asked struct{ *am.Entity }

func (x asked) Tick() [][]byte {
	x.Entity.Tick()
	return nil
}

func (x asked) Waits() int {
	waits, due := x.Entity.Waits()
	return waits + due
}

func (x asked) Reset() ([][]byte, api.Errno) {
	x.Entity.Reset()
	return nil, api.OK
}

// absent stands for a bearer that is not there, and tells why.
type absent struct {
	plainly
	why api.Errno
}

func (x absent) Push([]byte) (uint64, api.Errno)   { return 0, x.why }
func (x absent) Discard(uint64) api.Errno          { return x.why }
func (x absent) Build(int) ([]byte, api.Errno)     { return nil, x.why }
func (x absent) Hear([]byte) ([][]byte, api.Errno) { return nil, x.why }
func (x absent) Waits() int                        { return 0 }
func (x absent) Bad() int                          { return 0 }
func (x absent) Reset() ([][]byte, api.Errno)      { return nil, x.why }
