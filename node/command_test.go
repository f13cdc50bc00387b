package node_test

import (
	"slices"
	"testing"

	"gemel/api"
)

func of2(kind api.CmdKind, num uint64, block int) api.Command {
	return api.Command{Num: num, Kind: kind, Block: block}
}

func action(num uint64, who int, a api.Action) api.Command {
	return api.Command{Num: num, Who: who, Kind: api.CmdPROut, Action: a}
}

func with(protocol api.Protocol, cap int) api.Setup {
	s := setup()
	s.Protocol, s.Cap = protocol, cap
	return s
}

// step carries just one datagram that says something to a node.
func (p *pair) step(i int) {
	p.t.Helper()
	if !p.one(i) {
		p.t.Error("nothing goes to", i)
	}
}

// P20.2: what is refused as it comes, in order.
func TestCommandRefused(t *testing.T) {
	p := reign(t, setup())
	p.command(0, api.Command{Num: 1, Kind: 9})
	p.command(0, api.Command{Num: 2, Kind: api.CmdRead, Block: 64})
	p.command(0, read(3, 8))
	p.command(0, read(4, 63))
	p.answered(0, [2]int{1, 2}, [2]int{2, 2}, [2]int{3, 5}, [2]int{4, 5})
	p.command(1, api.Command{Num: 5})
	p.command(1, read(6, 8))
	p.command(1, read(7, 0))
	p.command(1, of2(api.CmdPRIn, 8, 0))
	if a := p.last[1].Answers; a[2].Kind != api.CmdRead || a[3].Kind != api.CmdPRIn {
		t.Error(a)
	}
	p.answered(1, [2]int{5, 2}, [2]int{6, 5}, [2]int{7, 9}, [2]int{8, 9})
	if p.n[0].Under() != 0 {
		t.Error(p.n[0].Under())
	}
}

// P20.2: ProtocolC: a write is answered once the other one has written it; a read of its block waits for that.
func TestProtocolC(t *testing.T) {
	p := reign(t, with(api.ProtocolC, 1))
	p.command(0, write(11, 3, 7))
	p.command(0, read(12, 3))
	p.command(0, read(13, 4))
	p.answered(0, [2]int{13, 0})
	p.reads(0, 3, 7)
	if m := p.last[0].Made; len(m) != 1 || m[0] != (api.Entry{Num: 11, Block: 3, Data: of(7)}) {
		t.Error(m)
	}
	if b := p.n[0].Behind(); len(b) != 1 || b[0].Num != 1 || b[0].Block != 3 || b[0].Got || p.n[0].Under() != 2 || !slices.Equal(p.n[0].Store().Hot(), []int{0}) {
		t.Error(b)
	}
	p.reads(1, 3, 0)
	p.step(1)
	p.reads(1, 3, 7)
	if len(p.n[1].Store().Hot()) != 0 {
		t.Error("the other one marks nothing")
	}
	p.said(1, api.MsgGot, api.MsgWritten)
	p.step(0)
	p.step(0)
	if p.answered(0); !p.n[0].Behind()[0].Got {
		t.Error("Got")
	}
	p.step(0)
	p.answered(0, [2]int{11, 0}, [2]int{12, 0})
	if p.n[0].Under() != 0 || len(p.n[0].Behind()) != 0 {
		t.Error("done")
	}
	p.marked(0)
}

// P20.2: ProtocolB: a write is answered once the other one has got it.
func TestProtocolB(t *testing.T) {
	p := reign(t, with(api.ProtocolB, 1))
	p.command(0, write(11, 3, 7))
	p.step(1)
	p.step(0)
	p.answered(0)
	p.step(0)
	p.answered(0, [2]int{11, 0})
	if len(p.n[0].Behind()) != 1 {
		t.Error("it may not have it")
	}
	p.step(0)
	p.answered(0)
	if len(p.n[0].Behind()) != 0 {
		t.Error("it has it")
	}
}

// P20.2: ProtocolA: as many as the cap may be on their way.
func TestProtocolA(t *testing.T) {
	p := reign(t, with(api.ProtocolA, 2))
	for i := range 4 {
		p.command(0, write(uint64(11+i), i, 7))
	}
	p.answered(0, [2]int{11, 0}, [2]int{12, 0})
	if len(p.n[0].Behind()) != 4 {
		t.Error(len(p.n[0].Behind()))
	}
	p.step(1)
	p.step(0)
	p.answered(0)
	p.step(0)
	p.answered(0, [2]int{13, 0})
	p.step(0)
	p.answered(0)
	p.carry()
	p.answered(0, [2]int{14, 0})
	if len(p.n[0].Behind()) != 0 {
		t.Error(len(p.n[0].Behind()))
	}
}

// P20.2: trims and zeroes write noughts.
func TestTrim(t *testing.T) {
	p := reign(t, setup())
	p.command(0, write(1, 3, 7))
	p.command(0, write(2, 4, 7))
	p.command(0, of2(api.CmdTrim, 3, 3))
	p.command(0, of2(api.CmdZeroes, 4, 4))
	p.carry()
	p.answered(0, [2]int{1, 0}, [2]int{2, 0}, [2]int{3, 0}, [2]int{4, 0})
	for i := range 2 {
		p.reads(i, 3, 0)
		p.reads(i, 4, 0)
	}
}

// P20.2: a flush closes an epoch, and is answered by Barred; all behind it wait.
func TestFlush(t *testing.T) {
	p := reign(t, with(api.ProtocolA, 9))
	p.command(0, write(1, 3, 7))
	p.command(0, of2(api.CmdFlush, 2, 0))
	p.command(0, read(3, 5))
	p.command(0, of2(api.CmdFlush, 4, 0))
	p.answered(0, [2]int{1, 0})
	l := p.says(0)
	if len(l) != 2 || l[0].Kind != api.MsgWrite || l[0].Num != 1 || l[1].Kind != api.MsgBarrier || l[1].Num != 1 || p.n[0].Under() != 3 {
		t.Error(l)
	}
	p.step(1)
	p.step(1)
	p.said(1, api.MsgGot, api.MsgWritten, api.MsgBarred)
	for range 3 {
		p.step(0)
	}
	p.answered(0)
	p.carry()
	p.answered(0, [2]int{2, 0}, [2]int{3, 0}, [2]int{4, 0})
	if l := p.says(0); len(l) != 1 || l[0].Num != 2 {
		t.Error(l)
	}
}

// P20.2: the table of reservations is the other one's, too, ahead of the answer; what it does not allow is refused.
func TestReserve(t *testing.T) {
	p := reign(t, setup())
	p.command(0, action(1, 3, api.Action{Kind: api.ResRegister, New: 9}))
	p.command(0, of2(api.CmdPRIn, 2, 0))
	if p.answered(0); p.n[0].Table().Keys[3] != 9 {
		t.Error(p.n[0].Table())
	}
	l := p.says(0)
	if len(l) != 1 || l[0].Kind != api.MsgTable || l[0].Num != 1 || len(l[0].Table) != 138 {
		t.Error(l)
	}
	p.carry()
	if a := p.last[0].Answers; len(a) != 2 || a[1].Reserve != p.n[0].Table() {
		t.Error(a)
	}
	p.answered(0, [2]int{1, 0}, [2]int{2, 0})
	for i := range 2 {
		if p.n[i].Table().Keys[3] != 9 || p.n[i].Store().Table() != p.n[i].Table() {
			t.Error(i)
		}
	}
	p.command(0, action(3, 4, api.Action{Kind: api.ResReserve, Key: 8, Type: 1}))
	p.answered(0, [2]int{3, int(api.ErrConflict)})
	p.command(0, action(4, 4, api.Action{Kind: api.ResIgnore, New: 8}))
	p.carry()
	p.command(0, action(5, 3, api.Action{Kind: api.ResReserve, Key: 9, Type: api.ExclusiveAccess}))
	p.carry()
	p.answered(0, [2]int{4, 0}, [2]int{5, 0})
	for i, c := range []api.Command{{Num: 6, Who: 4, Kind: api.CmdRead}, {Num: 7, Who: 4, Kind: api.CmdWrite}, {Num: 8, Who: 4, Kind: api.CmdFlush}, {Num: 9, Who: 4, Kind: api.CmdTrim}} {
		p.command(0, c)
		p.answered(0, [2]int{6 + i, int(api.ErrConflict)})
	}
	if len(p.last[0].Made) != 0 {
		t.Error("it was not started")
	}
	p.command(0, action(10, 4, api.Action{Kind: api.ResPreempt, Key: 8, New: 9, Type: api.WriteAll}))
	p.carry()
	if a := p.last[0].Answers; len(a) != 1 || !slices.Equal(a[0].Out, []int{3}) {
		t.Error(a)
	}
}

// P20.2: those on their way are gone through once; who comes on its way by that comes behind them.
func TestStartOrder(t *testing.T) {
	p := reign(t, setup())
	p.arb.Take(1)
	p.ask(0, api.AskDisconnect)
	p.tell()
	for i, c := range []api.Command{write(1, 3, 7), write(2, 3, 8), write(3, 4, 9), read(4, 3), read(5, 5)} {
		if p.command(0, c); p.n[0].Under() != i+1 {
			t.Error(i, p.n[0].Under())
		}
	}
	for range 8 {
		p.tick(0)
	}
	p.answered(0)
	p.arb.Release(1)
	p.tick(0)
	p.answered(0, [2]int{1, 0}, [2]int{3, 0}, [2]int{5, 0}, [2]int{2, 0}, [2]int{4, 0})
	p.marked(0, 3, 4)
}

// P20.2: a Primary that goes on alone answers what was started, marks it, and goes on.
func TestTimeout(t *testing.T) {
	p := reign(t, setup())
	p.command(0, write(1, 3, 7))
	p.command(0, action(2, 3, api.Action{Kind: api.ResIgnore, New: 9}))
	p.command(0, write(3, 4, 8))
	p.cut(0, 7)
	p.answered(0)
	p.is(0, pr, connected, noSync, uptd)
	if p.n[0].Idle() != 7 {
		t.Error(p.n[0].Idle())
	}
	p.cut(0, 1)
	p.answered(0, [2]int{1, 0}, [2]int{2, 0}, [2]int{3, 0})
	p.is(0, pr, connecting, noSync, uptd)
	p.marked(0, 3, 4)
	p.granted(0, true)
	if o := p.last[0]; !o.Fence || len(o.Born) != 1 || !p.n[0].Alone() || len(p.n[0].Behind()) != 0 || p.n[0].Idle() != 0 {
		t.Error(o.Fence, o.Born)
	}
	if role, state := p.n[0].Peer(); role != 0 || state != 0 {
		t.Error(role, state)
	}
	// The other one hears nothing for as long: it is only lost to it.
	p.cut(1, 8)
	p.is(1, se, connecting, noSync, uptd)
	p.granted(0, true)
}

// P20.2: a Primary that lost the other one counts ticks, and starts nothing; what was started is told again.
func TestLost(t *testing.T) {
	p := reign(t, setup())
	p.command(0, write(1, 3, 7))
	p.net = [2][][]byte{}
	p.command(0, write(2, 3, 8))
	p.ask(1, api.AskDisconnect)
	p.carry()
	p.is(0, pr, connecting, noSync, uptd)
	p.command(0, write(3, 4, 9))
	p.command(0, read(4, 5))
	p.answered(0)
	for i := 1; i < 4; i++ {
		if p.tick(0); p.n[0].Idle() != i || p.n[0].Alone() {
			t.Error(i, p.n[0].Idle())
		}
	}
	p.tell()
	p.ask(1, api.AskConnect)
	p.tick(1)
	for p.n[0].Conn() != shaking {
		p.step(0)
		p.step(1)
	}
	if p.n[0].Idle() != 3 || p.n[0].Under() != 4 {
		t.Error(p.n[0].Idle())
	}
	p.carry()
	p.is(0, pr, connected, noSync, uptd)
	if p.n[0].Idle() != 0 || p.n[0].Under() != 0 || len(p.last[0].Born) != 0 {
		t.Error(p.n[0].Idle(), p.n[0].Under())
	}
	var l []api.Message
	for _, m := range p.says(0) {
		if m.Kind != api.MsgShake {
			l = append(l, m)
		}
	}
	if len(l) != 3 || l[0].Num != 1 || l[0].Data != of(7) || l[1].Num != 3 || l[2].Num != 2 {
		t.Error(l)
	}
	p.answered(0, [2]int{4, 0}, [2]int{1, 0}, [2]int{3, 0}, [2]int{2, 0})
	p.reads(1, 3, 8)
}

// P20.2: at MaxIdle a Primary that is not Connected goes on alone, and at each tick behind that as long as it may not.
func TestCounts(t *testing.T) {
	p := reign(t, setup())
	p.ask(1, api.AskDisconnect)
	p.carry()
	p.arb.Take(1)
	for i := 1; i < 12; i++ {
		if p.tick(0); p.n[0].Idle() != i || p.n[0].Alone() {
			t.Error(i, p.n[0].Idle())
		}
	}
	p.arb.Release(1)
	p.tick(0)
	if !p.n[0].Alone() || p.n[0].Idle() != 0 || !p.last[0].Fence {
		t.Error("alone")
	}
}

// P20.2: barriers and tables are told again, too.
func TestToldAgain(t *testing.T) {
	for _, c := range []api.Command{of2(api.CmdFlush, 1, 0), action(1, 3, api.Action{Kind: api.ResIgnore, New: 9})} {
		p := reign(t, setup())
		p.command(0, c)
		p.net = [2][][]byte{}
		p.ask(1, api.AskDisconnect)
		p.carry()
		p.ask(1, api.AskConnect)
		first := p.says(0)
		p.meet()
		p.answered(0, [2]int{1, 0})
		again := p.says(0)
		if len(first) != 1 || len(again) != 2 || again[1].Kind != first[0].Kind || again[1].Num != first[0].Num {
			t.Error(first, again)
		}
	}
}

// P20.2: messages beyond the link's window wait, in order; none is left behind.
func TestWindow(t *testing.T) {
	s := with(api.ProtocolC, 2)
	s.Blocks, s.Hot = 64, 16
	p := reign(t, s)
	var want [][2]int
	for i := range 64 {
		p.command(0, write(uint64(i), i, byte(i)))
		want = append(want, [2]int{i, 0})
	}
	if len(p.net[1]) != 32 {
		t.Error(len(p.net[1]))
	}
	p.carry()
	p.answered(0, want...)
	for i := range 64 {
		p.reads(1, i, byte(i))
	}
}
