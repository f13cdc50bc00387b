package link_test

import (
	"bytes"
	"math/rand"
	"testing"

	"gemel/api"
	"gemel/link"
	"gemel/packet"
)

func wire(t *testing.T, p api.Packet) []byte {
	t.Helper()
	b, e := packet.Bytes(p)
	if e != api.OK {
		t.Fatal(p, e)
	}
	return b
}

func hello(mine, theirs uint64) api.Packet {
	return api.Packet{Kind: api.PacketHello, Mine: mine, Theirs: theirs}
}

func ack(mine, theirs, n uint64) api.Packet {
	return api.Packet{Kind: api.PacketAck, Mine: mine, Theirs: theirs, Ack: n}
}

func data(mine, theirs, n, seq uint64, s string) api.Packet {
	return api.Packet{Kind: api.PacketData, Mine: mine, Theirs: theirs, Ack: n, Seq: seq, Payload: []byte(s)}
}

func bye(mine, theirs uint64) api.Packet {
	return api.Packet{Kind: api.PacketClose, Mine: mine, Theirs: theirs}
}

// goesOut holds what goes out against what should.
func goesOut(t *testing.T, l *link.Link, want ...api.Packet) {
	t.Helper()
	out := l.Out()
	if len(out) != len(want) {
		t.Errorf("%d go out, not %d", len(out), len(want))
		return
	}
	for i, b := range out {
		if p, e := packet.Of(b); e != api.OK || !packet.Same(p, want[i]) {
			t.Error(i, p, want[i])
		}
	}
	if len(l.Out()) != 0 {
		t.Error("then nothing is")
	}
}

func takes(t *testing.T, l *link.Link, p api.Packet, event api.LinkEvent, state api.LinkState, want ...string) {
	t.Helper()
	got, e := l.Take(wire(t, p))
	if e != event || l.State() != state || len(got) != len(want) {
		t.Error(p, e, l.State(), got)
		return
	}
	for i, b := range got {
		if string(b) != want[i] {
			t.Error(string(b))
		}
	}
}

func is(t *testing.T, l *link.Link, state api.LinkState, mine, theirs uint64, idle, waiting int) {
	t.Helper()
	m, o := l.Nonces()
	if l.State() != state || m != mine || o != theirs || l.Idle() != idle || l.Waiting() != waiting {
		t.Error(l.State(), m, o, l.Idle(), l.Waiting())
	}
}

// up is a link of nonce 5 that is Up with one of nonce 6, with nothing to go out.
func up(t *testing.T) *link.Link {
	t.Helper()
	l := link.New()
	l.Open(5)
	takes(t, l, hello(6, 5), api.EventUp, api.LinkUp)
	l.Out()
	return l
}

// P9.1: New, Open, Close, and what they refuse.
func TestOpenClose(t *testing.T) {
	l := link.New()
	is(t, l, api.LinkDown, 0, 0, 0, 0)
	goesOut(t, l)
	if l.Close() != api.OK || l.Send([]byte("x")) != api.ErrState || l.Open(0) != api.ErrArg || l.State() != api.LinkDown {
		t.Error("Down")
	}
	if l.Open(5) != api.OK || l.Send([]byte("x")) != api.ErrState {
		t.Error("Opening")
	}
	is(t, l, api.LinkOpening, 5, 0, 0, 0)
	if l.Open(7) != api.OK {
		t.Error("Open")
	}
	goesOut(t, l, hello(7, 0))
	l.Tick()
	l.Close()
	goesOut(t, l)
	is(t, l, api.LinkDown, 0, 0, 0, 0)

	l = up(t)
	l.Send([]byte("x"))
	l.Tick()
	if l.Open(0) != api.ErrArg || l.State() != api.LinkUp {
		t.Error("what is refused changes nothing")
	}
	l.Close()
	goesOut(t, l, bye(5, 6))
	is(t, l, api.LinkDown, 0, 0, 0, 0)
	l = up(t)
	l.Send([]byte("x"))
	l.Open(9)
	goesOut(t, l, hello(9, 0))
	is(t, l, api.LinkOpening, 9, 0, 0, 0)
	takes(t, l, hello(6, 9), api.EventUp, api.LinkUp)
	l.Out()
	l.Send([]byte("y"))
	goesOut(t, l, data(9, 6, 0, 1, "y"))
}

// P9.1: Send, and what it refuses, in order.
func TestSend(t *testing.T) {
	l := up(t)
	for _, b := range [][]byte{nil, {}, make([]byte, 4001)} {
		if l.Send(b) != api.ErrArg || link.New().Send(b) != api.ErrArg {
			t.Error(len(b))
		}
	}
	b := []byte("ab")
	if l.Send(b) != api.OK || l.Send(make([]byte, 4000)) != api.OK {
		t.Error("Send")
	}
	b[0] = 'z'
	is(t, l, api.LinkUp, 5, 6, 0, 2)
	goesOut(t, l, data(5, 6, 0, 1, "ab"), data(5, 6, 0, 2, string(make([]byte, 4000))))
	for i := 3; i <= 32; i++ {
		if l.Send([]byte("x")) != api.OK {
			t.Error(i)
		}
	}
	l.Out()
	if l.Send([]byte("x")) != api.ErrFull || l.Send(nil) != api.ErrArg || l.Waiting() != 32 {
		t.Error("ErrFull")
	}
	goesOut(t, l)
	takes(t, l, ack(6, 5, 1), api.EventNone, api.LinkUp)
	if l.Send([]byte("x")) != api.OK {
		t.Error("there is room")
	}
	goesOut(t, l, data(5, 6, 0, 33, "x"))
}

// P9.2: what an Opening link does with a Hello.
func TestOpeningHello(t *testing.T) {
	l := link.New()
	l.Open(5)
	l.Out()
	takes(t, l, hello(6, 0), api.EventNone, api.LinkOpening)
	goesOut(t, l, hello(5, 6))
	takes(t, l, hello(8, 3), api.EventNone, api.LinkOpening)
	goesOut(t, l, hello(5, 8))
	is(t, l, api.LinkOpening, 5, 8, 0, 0)
	l.Tick()
	goesOut(t, l, hello(5, 8))
	takes(t, l, hello(9, 5), api.EventUp, api.LinkUp)
	goesOut(t, l, hello(5, 9))
	is(t, l, api.LinkUp, 5, 9, 0, 0)
}

// P9.2: what an Opening link does with other datagrams.
func TestOpeningOther(t *testing.T) {
	for _, known := range []bool{false, true} {
		opening := func() *link.Link {
			l := link.New()
			l.Open(5)
			if known {
				takes(t, l, hello(6, 0), api.EventNone, api.LinkOpening)
			}
			l.Out()
			return l
		}
		l := opening()
		takes(t, l, ack(6, 4, 0), api.EventNone, api.LinkOpening)
		takes(t, l, data(6, 4, 0, 1, "x"), api.EventNone, api.LinkOpening)
		goesOut(t, l)
		if known {
			takes(t, l, ack(7, 5, 0), api.EventNone, api.LinkOpening)
			takes(t, l, bye(7, 5), api.EventNone, api.LinkOpening)
			is(t, l, api.LinkOpening, 5, 6, 0, 0)
		}
		takes(t, l, bye(6, 5), api.EventNone, api.LinkOpening)
		is(t, l, api.LinkOpening, 5, 0, 0, 0)
		l = opening()
		takes(t, l, ack(6, 5, 99), api.EventUp, api.LinkUp)
		goesOut(t, l)
		is(t, l, api.LinkUp, 5, 6, 0, 0)
		l = opening()
		takes(t, l, data(6, 5, 0, 1, "x"), api.EventUp, api.LinkUp, "x")
		goesOut(t, l, ack(5, 6, 1))
		l = opening()
		takes(t, l, data(6, 5, 0, 2, "x"), api.EventUp, api.LinkUp)
		goesOut(t, l, ack(5, 6, 0))
	}
}

// P9.2: what a link that is Up does with a Hello.
func TestUpHello(t *testing.T) {
	l := up(t)
	l.Tick()
	l.Out()
	takes(t, l, hello(6, 5), api.EventNone, api.LinkUp)
	goesOut(t, l)
	is(t, l, api.LinkUp, 5, 6, 0, 0)
	l.Tick()
	l.Out()
	takes(t, l, hello(6, 0), api.EventNone, api.LinkUp)
	goesOut(t, l, hello(5, 6))
	is(t, l, api.LinkUp, 5, 6, 0, 0)
	l.Send([]byte("x"))
	takes(t, l, hello(7, 5), api.EventLost, api.LinkDown)
	is(t, l, api.LinkDown, 0, 0, 0, 0)
	goesOut(t, l, data(5, 6, 0, 1, "x"))
	takes(t, l, hello(7, 5), api.EventNone, api.LinkDown)
	goesOut(t, l)
}

// P9.2: what a link that is Up does with other datagrams.
func TestUpOther(t *testing.T) {
	l := up(t)
	for _, s := range []string{"a", "b", "c"} {
		l.Send([]byte(s))
	}
	l.Tick()
	l.Out()
	for _, p := range []api.Packet{ack(7, 5, 3), ack(6, 4, 3), data(7, 5, 3, 1, "x"), bye(6, 4), bye(7, 5)} {
		takes(t, l, p, api.EventNone, api.LinkUp)
	}
	if got, e := l.Take([]byte("nonsense")); len(got) != 0 || e != api.EventNone {
		t.Error(e)
	}
	is(t, l, api.LinkUp, 5, 6, 1, 3)
	goesOut(t, l)
	takes(t, l, ack(6, 5, 2), api.EventNone, api.LinkUp)
	is(t, l, api.LinkUp, 5, 6, 0, 1)
	l.Tick()
	goesOut(t, l, data(5, 6, 0, 3, "c"))
	takes(t, l, data(6, 5, 1, 1, "x"), api.EventNone, api.LinkUp, "x")
	takes(t, l, data(6, 5, 1, 1, "x"), api.EventNone, api.LinkUp)
	takes(t, l, data(6, 5, 1<<64-1, 3, "z"), api.EventNone, api.LinkUp)
	goesOut(t, l, ack(5, 6, 1), ack(5, 6, 1), ack(5, 6, 1))
	is(t, l, api.LinkUp, 5, 6, 0, 0)
	takes(t, l, data(6, 5, 0, 2, "y"), api.EventNone, api.LinkUp, "y")
	l.Out()
	l.Tick()
	goesOut(t, l, ack(5, 6, 2))
	l.Send([]byte("d"))
	goesOut(t, l, data(5, 6, 2, 4, "d"))
	l.Tick()
	takes(t, l, bye(6, 5), api.EventLost, api.LinkDown)
	is(t, l, api.LinkDown, 0, 0, 0, 0)
	goesOut(t, l, data(5, 6, 2, 4, "d"))
}

// P9.2: ticks, and how long nothing may be heard.
func TestTick(t *testing.T) {
	if l := link.New(); l.Tick() != api.EventNone || len(l.Out()) != 0 {
		t.Error("Down")
	}
	l := up(t)
	l.Send([]byte("a"))
	l.Send([]byte("b"))
	l.Out()
	for i := 1; i < 8; i++ {
		if l.Tick() != api.EventNone || l.Idle() != i {
			t.Error(i, l.Idle())
		}
		if i < 7 {
			goesOut(t, l, data(5, 6, 0, 1, "a"), data(5, 6, 0, 2, "b"))
		}
	}
	if l.Tick() != api.EventTimeout {
		t.Error("Timeout")
	}
	is(t, l, api.LinkDown, 0, 0, 0, 0)
	goesOut(t, l, data(5, 6, 0, 1, "a"), data(5, 6, 0, 2, "b"))
	l = link.New()
	l.Open(5)
	for range 20 {
		if l.Tick() != api.EventNone || l.Idle() != 0 || l.State() != api.LinkOpening {
			t.Error("an Opening link has no end")
		}
	}
}

// P9.3: a copy goes on apart; what Same looks at.
func TestCopySame(t *testing.T) {
	l := up(t)
	l.Send([]byte("a"))
	c := l.Copy()
	if !l.Same(c) || !c.Same(l) {
		t.Error("Copy")
	}
	for _, b := range c.Out() {
		b[0] ^= 1
	}
	if l.Same(c) {
		t.Error("what is to go out")
	}
	goesOut(t, l, data(5, 6, 0, 1, "a"))
	if !l.Same(c) {
		t.Error("equal ones")
	}
	for i, f := range []func(){
		func() { c.Tick(); c.Out() }, func() { c.Send([]byte("b")); c.Out() }, func() { takes(t, c, ack(6, 5, 1), 0, api.LinkUp) }, func() { takes(t, c, data(6, 5, 0, 1, "x"), 0, api.LinkUp, "x"); c.Out() }, func() { c.Close(); c.Out() }, func() { c.Open(5); c.Out() },
	} {
		c = l.Copy()
		if f(); l.Same(c) || c.Same(l) {
			t.Error(i)
		}
	}
	is(t, l, api.LinkUp, 5, 6, 0, 1)
	a, b := up(t), up(t)
	a.Send([]byte("a"))
	takes(t, a, ack(6, 5, 1), 0, api.LinkUp)
	a.Out()
	if a.Same(b) {
		t.Error("the number that the next payload gets")
	}
	a.Close()
	b.Close()
	a.Out()
	b.Out()
	if !a.Same(link.New()) || !a.Same(b) {
		t.Error("Down is Down")
	}
}

// P9.1 to P9.3: nil and zero links.
func TestNil(t *testing.T) {
	for _, l := range []*link.Link{nil, {}} {
		got, e := l.Take(wire(t, hello(1, 2)))
		m, o := l.Nonces()
		if l.Open(0) != api.ErrNil || l.Open(1) != api.ErrNil || l.Close() != api.ErrNil || l.Send(nil) != api.ErrNil || len(got) != 0 || e != api.EventNone || l.Tick() != api.EventNone || len(l.Out()) != 0 || l.State() != 0 || m != 0 || o != 0 || l.Idle() != 0 || l.Waiting() != 0 || l.Copy() != nil || !l.Same(nil) || !l.Same(&link.Link{}) || l.Same(link.New()) || link.New().Same(l) {
			t.Error("nil")
		}
	}
}

// session is what both ends of a net sent and took since they were last opened, by their nonces.
type session struct {
	sent, taken map[[2]uint64][][]byte
}

// play lets two links go on over a net that loses, doubles and mixes datagrams.
func play(t *testing.T, seed int64) {
	r := rand.New(rand.NewSource(seed))
	ends := [2]*link.Link{link.New(), link.New()}
	s := session{map[[2]uint64][][]byte{}, map[[2]uint64][][]byte{}}
	var net [2][][]byte
	nonce, text := uint64(0), byte(0)
	for range 600 {
		i := r.Intn(2)
		l := ends[i]
		switch r.Intn(12) {
		case 0:
			if l.State() == api.LinkDown || r.Intn(20) == 0 {
				nonce++
				l.Open(nonce)
			}
		case 1:
			if r.Intn(30) == 0 {
				l.Close()
			}
		case 2, 3:
			l.Tick()
		case 4, 5:
			text++
			m, o := l.Nonces()
			if l.Send([]byte{text}) == api.OK {
				s.sent[[2]uint64{m, o}] = append(s.sent[[2]uint64{m, o}], []byte{text})
			}
		default:
			if n := len(net[i]); n > 0 {
				at := r.Intn(min(n, 6))
				b := net[i][at]
				if r.Intn(6) > 0 {
					net[i] = append(net[i][:at:at], net[i][at+1:]...)
				}
				if r.Intn(6) > 0 {
					got, _ := l.Take(b)
					m, o := l.Nonces()
					s.taken[[2]uint64{o, m}] = append(s.taken[[2]uint64{o, m}], got...)
				}
			}
		}
		net[1-i] = append(net[1-i], l.Out()...)
	}
	for k, got := range s.taken {
		if len(got) > len(s.sent[k]) {
			t.Fatal(seed, k)
		}
		for j := range got {
			if !bytes.Equal(got[j], s.sent[k][j]) {
				t.Fatal(seed, k, j)
			}
		}
	}
}

// P9.4: what is taken is a beginning of what was sent.
func TestOrder(t *testing.T) {
	for seed := range int64(300) {
		play(t, seed)
	}
}

// P9.4: where all is carried, two that are Opening come to be Up, and all is taken.
func TestCarried(t *testing.T) {
	for _, old := range [][]byte{nil, wire(t, hello(9, 0)), wire(t, hello(9, 1)), wire(t, ack(9, 1, 0))} {
		a, b := link.New(), link.New()
		a.Open(1)
		b.Open(2)
		if old != nil {
			a.Take(old)
		}
		taken, events := "", ""
		for round := range 12 {
			for _, x := range a.Out() {
				got, e := b.Take(x)
				if e == api.EventUp {
					events += "b"
				}
				for _, y := range got {
					taken += string(y)
				}
			}
			for _, x := range b.Out() {
				if _, e := a.Take(x); e == api.EventUp {
					events += "a"
				}
			}
			if a.State() == api.LinkDown {
				a.Open(uint64(3 + round))
			}
			if b.State() == api.LinkDown {
				b.Open(uint64(103 + round))
			}
			if old == nil && round == 4 {
				for _, s := range []string{"x", "y", "z"} {
					a.Send([]byte(s))
				}
			}
			a.Tick()
			b.Tick()
		}
		if a.State() != api.LinkUp || b.State() != api.LinkUp || old == nil && (taken != "xyz" || len(events) != 2 || a.Waiting() != 0) {
			t.Error(a.State(), b.State(), taken, events)
		}
	}
}

// P9.3: what a copy sends is its own, however much was sent ahead.
func TestCopyApart(t *testing.T) {
	l := up(t)
	for range 9 {
		l.Send([]byte("a"))
		c := l.Copy()
		c.Send([]byte("c"))
		l.Send([]byte("l"))
		c.Out()
		c.Tick()
		out := c.Out()
		p, e := packet.Of(out[len(out)-1])
		if e != api.OK || string(p.Payload) != "c" {
			t.Error(string(p.Payload), e)
		}
	}
}
