package node_test

import (
	"slices"
	"testing"

	"gemel/api"
	"gemel/store"
)

// gone lets node 0 be Primary alone, having written some blocks that the other one has not.
func gone(t *testing.T, s api.Setup, blocks ...int) *pair {
	t.Helper()
	p := reign(t, s)
	p.cut(0, 8)
	for i, b := range blocks {
		p.command(0, write(uint64(100+i), b, byte(50+b)))
	}
	p.cut(1, 8)
	p.net = [2][][]byte{}
	p.tell()
	return p
}

// P20.2: a resync: the marked blocks alone go; then both are of one line, and the grant is nobody's.
func TestResync(t *testing.T) {
	for _, digests := range []bool{false, true} {
		s := setup()
		s.Digests = digests
		p := gone(t, s, 1, 5, 6)
		p.n[1].Store().Write(5, of(55), false)
		p.marked(0, 1, 5, 6)
		p.granted(0, true)
		line := p.n[0].Store().Super().Line
		p.tick(0)
		p.tick(1)
		for p.n[1].Conn() != connected {
			p.step(1)
			p.one(0)
		}
		p.is(1, se, connected, syncTarget, inco)
		p.marked(1, 1, 5, 6)
		if x := p.n[1].Store().Super(); x.State != inco || x.Line.Current != 1 {
			t.Error(x)
		}
		for p.n[0].Conn() != connected {
			p.step(0)
		}
		p.is(0, pr, connected, source, uptd)
		if role, state := p.n[0].Peer(); role != se || state != uptd || p.n[0].Alone() {
			t.Error("what its shake says", role, state)
		}
		p.command(0, write(200, 2, 9))
		p.command(0, write(201, 6, 8))
		p.carry()
		p.answered(0, [2]int{200, 0}, [2]int{201, 0})
		p.is(0, pr, connected, noSync, uptd)
		p.is(1, se, connected, noSync, uptd)
		for i := range 2 {
			p.reads(i, 1, 51)
			p.reads(i, 2, 9)
			p.reads(i, 5, 55)
			p.reads(i, 6, 8)
			p.marked(i)
			x := p.n[i].Store().Super()
			if x.Line != (api.Line{Current: line.Current, History: [2]uint64{1}}) || x.Crashed != (i == 0) {
				t.Error(i, x)
			}
		}
		p.granted(0, false)
		want := []int{1, 5}
		if digests {
			want = []int{1}
		}
		wrote := p.last[1].Wrote
		slices.Sort(wrote)
		if !slices.Equal(slices.DeleteFunc(wrote, func(i int) bool { return i == 6 }), want) {
			t.Error(wrote)
		}
		synced := 0
		for _, m := range p.says(1) {
			if m.Kind == api.MsgSynced {
				synced++
			}
		}
		if synced != 1 {
			t.Error(synced)
		}
	}
}

// P20.2: a target asks, rising, as many as its window; nothing marked: Synced at once.
func TestTargetAsks(t *testing.T) {
	p := gone(t, setup(), 1, 5, 6)
	p.tick(0)
	p.tick(1)
	for p.n[1].Conn() != connected {
		p.step(1)
		p.one(0)
	}
	var got []int
	for _, m := range p.says(1) {
		if m.Kind == api.MsgAsk {
			got = append(got, m.Block)
		}
	}
	if !slices.Equal(got, []int{1, 5}) {
		t.Error(got)
	}
	p = gone(t, setup())
	p.meet()
	p.is(0, pr, connected, noSync, uptd)
	p.is(1, se, connected, noSync, uptd)
	if len(p.last[1].Wrote) != 0 || p.n[1].Store().Super().Line.History[0] != 1 {
		t.Error("an empty resync has an end, too")
	}
}

// P20.2: a write that comes meanwhile is not asked for any more.
func TestTargetWrote(t *testing.T) {
	p := gone(t, setup(), 1, 5, 6, 7)
	p.tick(0)
	p.tick(1)
	for p.n[0].Conn() != connected {
		p.one(1)
		p.one(0)
	}
	p.command(0, write(200, 7, 9))
	p.carry()
	if slices.Contains(p.last[1].Wrote, 7) {
		t.Error(p.last[1].Wrote)
	}
	p.reads(1, 7, 9)
	p.is(1, se, connected, noSync, uptd)
}

// P20.2: a blank one gets all blocks.
func TestFull(t *testing.T) {
	p := apart(t, setup())
	p.d[1].Blank()
	p.up(1, setup())
	for i := range 8 {
		p.n[0].Store().Write(i, of(byte(9+i)), false)
	}
	p.is(1, se, connecting, noSync, inco)
	p.meet()
	p.is(1, se, connected, noSync, uptd)
	for i := range 8 {
		p.reads(1, i, byte(9+i))
	}
	if x := p.n[1].Store().Super(); x.Line != (api.Line{Current: 1}) {
		t.Error(x)
	}
	if len(p.last[1].Wrote) != 8 {
		t.Error(p.last[1].Wrote)
	}
}

// P20.2: shakes that refuse, or may not meet: both stand alone, or wait.
func TestRefuse(t *testing.T) {
	p := apart(t, setup())
	p.ask(0, api.AskForce)
	p.ask(1, api.AskForce)
	p.ask(0, api.AskConnect)
	p.ask(1, api.AskConnect)
	p.tell()
	p.tick(0)
	p.tick(1)
	p.carry()
	stands := 0
	for i := range 2 {
		for _, m := range p.last[i].Met {
			if !m.Plan.Refuse || m.Code != api.OK || m.Plan.Verdict != api.VerdictDiverged {
				t.Error(m)
			}
		}
		if p.n[i].Conn() == standAlone {
			stands++
		}
		if p.n[i].Role() != pr {
			t.Error("a Primary stays")
		}
	}
	if stands == 0 {
		t.Error("one stands alone")
	}
	p = apart(t, setup())
	p.d[1] = plate(t, 7, api.Line{Current: 1}, uptd)
	s := setup()
	s.Blocks = 7
	p.up(1, s)
	p.tick(0)
	p.tick(1)
	p.carry()
	if m := append(p.last[0].Met, p.last[1].Met...); len(m) == 0 || m[0].Code != api.ErrArg || m[0].Plan != (api.Plan{}) {
		t.Error(m)
	}
	if p.n[0].Conn() != standAlone && p.n[1].Conn() != standAlone {
		t.Error(p.n[0].Conn(), p.n[1].Conn())
	}
}

// P20.2: a policy names who gives way.
func TestDiverged(t *testing.T) {
	s := setup()
	s.Policy.Zero = api.DiscardZero
	p := apart(t, s)
	for i := range 2 {
		p.ask(i, api.AskForce)
		p.command(i, write(1, 2+i, byte(20+i)))
		p.ask(i, api.AskDemote)
		p.ask(i, api.AskConnect)
	}
	p.tell()
	p.meet()
	for i := range 2 {
		p.is(i, se, connected, noSync, uptd)
		p.reads(i, 2, 0)
		p.reads(i, 3, 21)
		p.marked(i)
	}
	if !slices.Equal(p.last[0].Wrote, []int{2, 3}) || p.n[0].Store().Super().Line != p.n[1].Store().Super().Line {
		t.Error(p.last[0].Wrote)
	}
}

// P20.2: the other one's table counts where its blocks do; what is none's leaves this node's.
func TestShakeTable(t *testing.T) {
	p := apart(t, setup())
	p.n[0].Store().SaveTable(api.Reserve{Gen: 4, Keys: [16]uint64{7}})
	p.up(0, setup())
	p.meet()
	if p.n[1].Table() != p.n[0].Table() || p.n[1].Store().Table() != p.n[0].Table() || p.n[0].Table().Gen != 4 {
		t.Error(p.n[1].Table())
	}
	p.d[0].Fail()
	p.up(0, setup())
	p.net = [2][][]byte{}
	p.cut(1, 8)
	p.meet()
	p.is(0, se, connected, noSync, less)
	if p.n[0].Table().Gen != 4 || p.n[1].Table().Gen != 4 {
		t.Error("the one's that has a disk")
	}
}

// P20.2: a Secondary that is Crashed is so no more, where nothing goes.
func TestRecovered(t *testing.T) {
	p := apart(t, setup())
	x := p.n[1].Store().Super()
	x.Crashed = true
	p.n[1].Store().Set(x)
	p.meet()
	if p.n[1].Store().Super().Crashed {
		t.Error("Crashed")
	}
	p = apart(t, setup())
	p.d[0].Fail()
	p.up(0, setup())
	p.n[1].Store().Set(x)
	p.meet()
	p.is(0, se, connected, noSync, less)
	if !p.n[1].Store().Super().Crashed {
		t.Error("the other one has no disk")
	}
}

// P20.2: a Primary whose other one has no disk goes on alone.
func TestUnmirrored(t *testing.T) {
	p := reign(t, setup())
	p.ask(1, api.AskDisconnect)
	p.carry()
	p.command(0, write(1, 3, 7))
	p.d[1].Fail()
	p.up(1, setup())
	p.tell()
	p.meet()
	p.is(0, pr, connected, noSync, uptd)
	p.is(1, se, connected, noSync, less)
	p.answered(0, [2]int{1, 0})
	p.marked(0, 3)
	if !p.n[0].Alone() || !p.last[0].Fence || len(p.last[0].Born) != 1 {
		t.Error("alone")
	}
	p.granted(0, true)
}

// P20.2: a store that can't save, for its numbers are at their end, keeps its node from what comes behind.
func TestStoreFull(t *testing.T) {
	full := func(p *pair, i int) {
		s, e := store.Attach(p.d[i], 8, 2)
		if e != api.OK {
			t.Fatal(e)
		}
		fill(t, p.d[i], s.Super(), s.Table())
		p.up(i, setup())
	}
	p := apart(t, setup())
	full(p, 0)
	p.ask(0, api.AskPromote)
	p.ask(0, api.AskOutdate)
	p.ask(0, api.AskForce)
	p.told(0, not(api.AskPromote, api.ErrIO), not(api.AskOutdate, api.ErrIO), not(api.AskForce, api.ErrIO))
	p.is(0, se, standAlone, noSync, uptd)
	if len(p.last[0].Born) != 1 {
		t.Error(p.last[0].Born)
	}

	p = together(t, setup())
	full(p, 0)
	p.net = [2][][]byte{}
	p.cut(1, 8)
	p.meet()
	p.tell()
	p.ask(0, api.AskPromote)
	p.carry()
	p.told(0, not(api.AskPromote, api.ErrStale))
	p.is(0, se, connected, noSync, uptd)
	p.said(0, api.MsgPromote, api.MsgState)
	p.ask(1, api.AskPromote)
	p.carry()
	p.command(1, action(1, 3, api.Action{Kind: api.ResIgnore, New: 9}))
	p.carry()
	if p.answered(1); p.n[0].Table().Keys[3] != 9 || p.n[0].Store().Table().Keys[3] != 0 {
		t.Error("no Tabled goes")
	}
}
