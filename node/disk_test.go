package node_test

import (
	"testing"

	"gemel/actlog"
	"gemel/api"
	"gemel/disk"
	"gemel/reserve"
	"gemel/super"
)

// fill lets the numbers of a disk's slots, and of its log, be at their end.
func fill(t *testing.T, d *disk.Disk, x api.Super, r api.Reserve) {
	t.Helper()
	x.Seq = 1 << 62
	a, e := super.Block(x)
	b, f := reserve.Block(r, 1<<62)
	if e != api.OK || f != api.OK {
		t.Fatal(e, f)
	}
	d.Write(0, a)
	d.Write(2, b)
	d.Write(5, actlog.Block(1<<62, 0))
	d.Flush()
}

// P20.2: the Primary's disk fails: it reads and writes by the other one, which begins a generation for it.
func TestPrimaryFails(t *testing.T) {
	p := reign(t, setup())
	p.command(0, write(1, 3, 7))
	p.carry()
	p.tell()
	p.arb.Take(0)
	p.d[0].Fail()
	p.command(0, write(2, 4, 8))
	p.is(0, pr, connected, noSync, less)
	p.said(0, api.MsgState, api.MsgWrite)
	p.granted(0, false)
	if len(p.last[0].Made) != 1 || len(p.n[0].Behind()) != 1 {
		t.Error(p.last[0].Made)
	}
	p.command(0, read(3, 3))
	p.command(0, read(4, 4))
	p.command(0, of2(api.CmdFlush, 5, 0))
	p.command(0, of2(api.CmdPRIn, 6, 0))
	p.carry()
	if a := p.last[0].Answers; len(a) != 5 || a[0].Num != 2 && a[1].Num != 2 {
		t.Error(a)
	}
	for _, a := range p.last[0].Answers {
		if a.Code != api.OK || a.Num == 3 && a.Data != of(7) || a.Num == 4 && a.Data != of(8) {
			t.Error(a.Num, a.Code)
		}
	}
	p.granted(1, true)
	x := p.n[1].Store().Super()
	if x.Line.Base != 1 || !x.Crashed || p.n[1].Store().Map().Len() != 8 {
		t.Error(x)
	}
	p.reads(1, 4, 8)
	// Where the other one is lost it has nothing left, and drops.
	p.command(0, write(7, 5, 9))
	p.tell()
	p.cut(0, 8)
	p.is(0, se, connecting, noSync, less)
	p.answered(0)
	if p.n[0].Under() != 0 || len(p.n[0].Behind()) != 0 {
		t.Error("dropped")
	}
}

// P20.2: the other one's disk fails: the Primary goes on alone.
func TestSecondaryFails(t *testing.T) {
	p := reign(t, setup())
	p.d[1].Fail()
	p.command(0, write(1, 3, 7))
	p.carry()
	p.is(1, se, connected, noSync, less)
	p.said(1, api.MsgState)
	p.is(0, pr, connected, noSync, uptd)
	p.answered(0, [2]int{1, 0})
	p.marked(0, 3)
	p.granted(0, true)
	if !p.n[0].Alone() || !p.last[0].Fence || len(p.last[0].Born) != 1 {
		t.Error("alone")
	}
	p.command(0, write(2, 4, 7))
	p.answered(0, [2]int{2, 0})
	p.marked(0, 3, 4)
}

// P20.2: one that may not go on alone where the other one's disk failed stays Connected, starts nothing, counts nothing.
func TestSecondaryFailsHeld(t *testing.T) {
	p := reign(t, setup())
	p.arb.Take(1)
	p.ask(1, api.AskDetach)
	p.carry()
	p.command(0, write(1, 3, 7))
	p.tick(0)
	p.is(0, pr, connected, noSync, uptd)
	p.answered(0)
	if p.n[0].Alone() || p.n[0].Under() != 1 || len(p.last[0].Made) != 0 || p.n[0].Idle() != 1 {
		t.Error(p.n[0].Idle())
	}
	p.tick(1)
	p.carry()
	p.tick(0)
	if p.n[0].Idle() != 1 {
		t.Error(p.n[0].Idle())
	}
}

// P20.2: a Primary that is alone, and whose disk fails, drops, and keeps the grant.
func TestAloneFails(t *testing.T) {
	p := gone(t, setup(), 1)
	p.d[0].Fail()
	p.command(0, write(1, 3, 7))
	p.command(0, read(2, 3))
	p.is(0, se, connecting, noSync, less)
	p.answered(0, [2]int{2, int(api.ErrState)})
	p.granted(0, true)
	if p.n[0].Alone() || p.n[0].Under() != 0 || len(p.last[0].Made) != 1 {
		t.Error("dropped")
	}
	p = gone(t, setup(), 1)
	p.ask(1, api.AskDetach)
	p.meet()
	p.tell()
	p.is(0, pr, connected, noSync, uptd)
	was := p.n[0].Table()
	p.d[0].Fail()
	p.command(0, action(1, 3, api.Action{Kind: api.ResIgnore, New: 9}))
	p.is(0, se, connected, noSync, less)
	p.said(0, api.MsgState)
	if p.answered(0); p.n[0].Table() != was {
		t.Error("its table is as it was")
	}
}

// P20.2: a Primary whose disk fails as a table is saved keeps the new one, and tells it.
func TestTableFails(t *testing.T) {
	p := reign(t, setup())
	p.d[0].Fail()
	p.command(0, action(1, 3, api.Action{Kind: api.ResIgnore, New: 9}))
	p.said(0, api.MsgState, api.MsgTable)
	p.carry()
	p.answered(0, [2]int{1, 0})
	for i := range 2 {
		if p.n[i].Table().Keys[3] != 9 {
			t.Error(i)
		}
	}
	p = reign(t, setup())
	p.d[1].Fail()
	p.command(0, action(1, 3, api.Action{Kind: api.ResIgnore, New: 9}))
	p.carry()
	p.said(1, api.MsgState)
	p.answered(0, [2]int{1, 0})
}

// P20.2: what can't be kept for a Primary without a disk: the link is closed.
func TestKeepsNot(t *testing.T) {
	p := reign(t, setup())
	p.arb.Take(0)
	p.ask(0, api.AskDetach)
	p.arb.Take(0)
	p.carry()
	p.is(1, se, connecting, noSync, uptd)
	p.is(0, se, connecting, noSync, less)

	p = reign(t, setup())
	p.ask(0, api.AskDetach)
	p.d[1].Fail()
	p.carry()
	p.is(1, se, connecting, noSync, less)
	p.is(0, se, connecting, noSync, less)
}

// P20.2: without fencing no grant is taken, whoever goes on alone.
func TestDontCare(t *testing.T) {
	s := setup()
	s.Fencing = api.DontCare
	p := reign(t, s)
	p.arb.Take(1)
	p.cut(0, 8)
	if !p.n[0].Alone() || p.last[0].Fence {
		t.Error("alone")
	}
	p = reign(t, s)
	p.arb.Take(0)
	p.ask(0, api.AskDetach)
	p.arb.Take(0)
	p.carry()
	p.is(1, se, connected, noSync, uptd)
	p.granted(0, true)
}

// P20.2: a source, and a target, whose disk fails: nothing goes any more.
func TestSyncFails(t *testing.T) {
	for i := range 2 {
		p := gone(t, setup(), 1, 5, 6)
		p.tick(0)
		p.tick(1)
		for p.n[0].Conn() != connected || p.n[1].Conn() != connected {
			p.one(1)
			p.one(0)
		}
		p.tell()
		p.d[i].Fail()
		p.carry()
		for j := range 2 {
			if p.n[j].Sync() != noSync || p.n[j].Conn() != connected {
				t.Error(i, j, p.n[j].Sync(), p.n[j].Conn())
			}
		}
		if p.n[i].State() != less || p.n[i].Role() != []api.Role{pr, se}[i] {
			t.Error(p.n[i].State(), p.n[i].Role())
		}
	}
}

// P20.2: a read of the other one's that it can't do is answered ErrIO.
func TestReadFails(t *testing.T) {
	p := reign(t, setup())
	p.ask(0, api.AskDetach)
	p.command(0, read(1, 3))
	p.step(1)
	p.d[1].Fail()
	p.carry()
	p.answered(0)
	p.is(0, se, connected, noSync, less)
	p.is(1, se, connected, noSync, less)
}

// P20.2: a draw that is the line's own is told, but can't be saved: no generation began, and the store stays.
func TestSameDraw(t *testing.T) {
	p := apart(t, setup())
	p.draws = 0
	p.ask(0, api.AskPromote)
	p.told(0, not(api.AskPromote, api.ErrIO))
	p.is(0, se, connecting, noSync, uptd)
	if x := p.n[0].Store().Super(); len(p.last[0].Born) != 1 || p.last[0].Born[0] != (api.Born{Parent: 1, Child: 1}) || x.Line != (api.Line{Current: 1}) || x.Crashed || p.n[0].Alone() {
		t.Error(p.last[0].Born, x)
	}
	p.ask(0, api.AskPromote)
	p.is(0, pr, connecting, noSync, uptd)
}

// P20.2: the log's numbers being at their end a write goes on as if it were done.
func TestLogFull(t *testing.T) {
	p := reign(t, setup())
	p.d[0].Write(5, actlog.Block(1<<62, 0))
	p.d[0].Flush()
	p.ask(0, api.AskDemote)
	p.d[0].Write(5, actlog.Block(1<<62, 0))
	p.d[0].Flush()
	p.up(0, setup())
	p.net = [2][][]byte{}
	p.cut(1, 8)
	p.meet()
	p.ask(0, api.AskPromote)
	p.carry()
	p.tell()
	p.command(0, write(1, 3, 7))
	p.carry()
	p.answered(0, [2]int{1, 0})
	p.reads(0, 3, 0)
	p.reads(1, 3, 7)
}
