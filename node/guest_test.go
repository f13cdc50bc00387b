package node_test

import (
	"bytes"
	"slices"
	"testing"

	"gemel/api"
	"gemel/link"
	"gemel/message"
	"gemel/reserve"
	"gemel/resync"
)

// guest is who says, as node 1, what it likes to node 0 of a pair.
type guest struct {
	*pair
	x     *link.Link
	heard []api.Message
}

// visit lets a guest be Connected to node 0, having said this shake.
func visit(t *testing.T, p *pair, shake api.Message) *guest {
	t.Helper()
	g := &guest{pair: p, x: link.New()}
	g.x.Open(1 << 50)
	p.tick(0)
	g.carry()
	g.heard = nil
	g.say(shake)
	return g
}

func newGuest(t *testing.T, f func(m *api.Message)) *guest {
	t.Helper()
	m := api.Message{Kind: api.MsgShake, Node: 1, Blocks: 8, Role: se, State: uptd, Line: api.Line{Current: 1}}
	if f != nil {
		f(&m)
	}
	return visit(t, apart(t, setup()), m)
}

func (g *guest) carry() {
	for range 20 {
		for _, b := range g.x.Out() {
			g.took(0, g.n[0].Take(g.env(), b))
		}
		for _, b := range g.net[1] {
			got, _ := g.x.Take(b)
			for _, y := range got {
				if m, e := message.Of(y); e == api.OK {
					g.heard = append(g.heard, m)
				}
			}
		}
		g.net[1] = nil
	}
}

// say says messages, and is what was heard by then.
func (g *guest) say(l ...api.Message) []api.Message {
	g.t.Helper()
	g.heard = nil
	for _, m := range l {
		b, e := message.Bytes(m)
		if e != api.OK || g.x.Send(b) != api.OK {
			g.t.Fatal(m.Kind, e)
		}
		g.carry()
	}
	return g.heard
}

// hears holds what comes of messages against what should.
func (g *guest) hears(l []api.Message, want ...api.Message) {
	g.t.Helper()
	if !slices.EqualFunc(l, want, message.Same) {
		g.t.Error("heard", l, "not", want)
	}
}

func of1(kind api.MsgKind, num uint64, block int) api.Message {
	return api.Message{Kind: kind, Num: num, Block: block}
}

// P20.2: what the other one asks, whatever the role is; of a block that there is not nothing is done, and Data says no.
func TestAsked(t *testing.T) {
	g := newGuest(t, nil)
	g.is(0, se, connected, noSync, uptd)
	g.hears(g.say(api.Message{Kind: api.MsgWrite, Num: 77, Block: 7, Data: of(5)}), of1(api.MsgGot, 77, 0), of1(api.MsgWritten, 77, 0))
	g.reads(0, 7, 5)
	g.hears(g.say(api.Message{Kind: api.MsgWrite, Num: 78, Block: 8, Data: of(5)}))
	g.hears(g.say(of1(api.MsgBarrier, 9, 0)), of1(api.MsgBarred, 9, 0))
	g.hears(g.say(of1(api.MsgRead, 4, 7)), api.Message{Kind: api.MsgData, Num: 4, Yes: true, Data: of(5)})
	g.hears(g.say(of1(api.MsgRead, 5, 8)), of1(api.MsgData, 5, 0))
	table := api.Reserve{Gen: 3, Keys: [16]uint64{8}}
	b, _ := reserve.Bytes(table)
	g.hears(g.say(api.Message{Kind: api.MsgTable, Num: 6, Table: b}), of1(api.MsgTabled, 6, 0))
	g.hears(g.say(api.Message{Kind: api.MsgTable, Num: 7, Table: b[:9]}, of1(api.MsgTable, 8, 0)))
	if g.n[0].Table() != table || g.n[0].Store().Table() != table {
		t.Error(g.n[0].Table())
	}
	g.hears(g.say(api.Message{Kind: api.MsgVerify, Block: 7, Digest: resync.Digest(of(5))}, api.Message{Kind: api.MsgVerify, Block: 7, Digest: resync.Digest(of(6))}, api.Message{Kind: api.MsgVerify, Block: 8, Digest: resync.Digest(of(5))}),
		api.Message{Kind: api.MsgVerified, Block: 7, Yes: true}, api.Message{Kind: api.MsgVerified, Block: 7})
	g.hears(g.say(of1(api.MsgAsk, 0, 7), of1(api.MsgSync, 0, 7), api.Message{Kind: api.MsgSynced}, api.Message{Kind: api.MsgEnd, Line: api.Line{Current: 9}}))
	g.reads(0, 7, 5)
	if x := g.n[0].Store().Super(); x.Line.Current != 1 {
		t.Error("where nothing goes nothing ends", x)
	}
	g.hears(g.say(of1(api.MsgGot, 1, 0), of1(api.MsgWritten, 1, 0), of1(api.MsgBarred, 1, 0), of1(api.MsgTabled, 1, 0), of1(api.MsgData, 1, 0), api.Message{Kind: api.MsgVerified}, api.Message{Kind: api.MsgPromoted, Yes: true}))
	g.is(0, se, connected, noSync, uptd)
	g.hears(g.say(api.Message{Kind: api.MsgShake, Node: 1, Blocks: 8, Role: pr, State: uptd, Line: api.Line{Current: 1}}))
	if role, _ := g.n[0].Peer(); role != se {
		t.Error("a shake counts while Shaking alone")
	}
}

// P20.2: one without a disk answers what it can.
func TestAskedDiskless(t *testing.T) {
	p := apart(t, setup())
	p.d[0].Fail()
	p.up(0, setup())
	g := visit(t, p, api.Message{Kind: api.MsgShake, Node: 1, Blocks: 8, Role: se, State: uptd, Line: api.Line{Current: 1}})
	g.is(0, se, connected, noSync, less)
	g.hears(g.say(of1(api.MsgWrite, 7, 1), of1(api.MsgAsk, 0, 1), api.Message{Kind: api.MsgVerify, Digest: resync.Digest(of(0))}))
	g.hears(g.say(of1(api.MsgRead, 4, 1), of1(api.MsgBarrier, 5, 0), api.Message{Kind: api.MsgPromote}), of1(api.MsgData, 4, 0), of1(api.MsgBarred, 5, 0), api.Message{Kind: api.MsgPromoted, Yes: true})
	b, _ := reserve.Bytes(api.Reserve{Gen: 3})
	g.hears(g.say(api.Message{Kind: api.MsgTable, Num: 6, Table: b}), of1(api.MsgTabled, 6, 0))
	if g.n[0].Table().Gen != 3 {
		t.Error(g.n[0].Table())
	}
}

// P20.2: what is answered counts for the command of its number, and kind, alone.
func TestAnswered(t *testing.T) {
	p := apart(t, with(api.ProtocolA, 1))
	g := visit(t, p, api.Message{Kind: api.MsgShake, Node: 1, Blocks: 8, Role: se, State: uptd, Line: api.Line{Current: 1}})
	g.ask(0, api.AskPromote)
	g.carry()
	g.say(api.Message{Kind: api.MsgPromoted, Yes: true})
	g.is(0, pr, connected, noSync, uptd)
	g.tell()
	for i, c := range []api.Command{write(11, 1, 1), write(12, 2, 2), write(13, 3, 3)} {
		g.command(0, c)
		if g.n[0].Under() != max(0, i) {
			t.Error(i, g.n[0].Under())
		}
	}
	g.answered(0, [2]int{11, 0})
	g.say(of1(api.MsgTabled, 2, 0), of1(api.MsgBarred, 2, 0), of1(api.MsgData, 2, 0), of1(api.MsgGot, 9, 0), of1(api.MsgWritten, 9, 0))
	g.answered(0)
	g.say(of1(api.MsgWritten, 1, 0))
	g.answered(0, [2]int{12, 0})
	g.say(of1(api.MsgWritten, 3, 0))
	g.answered(0, [2]int{13, 0})
	if b := g.n[0].Behind(); len(b) != 1 || b[0].Num != 2 {
		t.Error(b)
	}
	g.say(of1(api.MsgWritten, 2, 0))
	g.command(0, of2(api.CmdFlush, 14, 0))
	g.command(0, action(15, 0, api.Action{Kind: api.ResIgnore, New: 1}))
	g.say(of1(api.MsgTabled, 4, 0), of1(api.MsgTabled, 5, 0), of1(api.MsgBarred, 4, 0), of1(api.MsgBarred, 0, 0))
	g.answered(0)
	g.say(of1(api.MsgBarred, 1, 0))
	g.answered(0, [2]int{14, 0})
	g.say(of1(api.MsgTabled, 4, 0), of1(api.MsgBarred, 5, 0))
	g.answered(0)
	g.say(of1(api.MsgTabled, 5, 0))
	g.answered(0, [2]int{15, 0})
}

// P20.2: a verify counts as many answers as there are blocks; of a block that there is not none.
func TestVerified(t *testing.T) {
	g := newGuest(t, nil)
	g.tell()
	g.ask(0, api.AskVerify)
	g.carry()
	for i := range 7 {
		g.say(api.Message{Kind: api.MsgVerified, Block: i, Yes: true}, of1(api.MsgVerified, 0, 8), of1(api.MsgVerified, 0, 63))
	}
	g.told(0)
	g.marked(0)
	g.say(of1(api.MsgVerified, 0, 7))
	g.told(0, ok(api.AskVerify))
	g.marked(0, 7)
	g.is(0, se, connecting, noSync, uptd)
}

// P20.2: the last block is verified, too.
func TestVerifyLast(t *testing.T) {
	p := together(t, setup())
	p.n[1].Store().Write(7, of(9), false)
	p.tell()
	p.ask(0, api.AskVerify)
	p.carry()
	p.told(0, ok(api.AskVerify))
	p.marked(0, 7)
}

// P20.2: nothing is verified while something goes.
func TestVerifySync(t *testing.T) {
	p := gone(t, setup(), 1, 5)
	p.tick(0)
	p.tick(1)
	for p.n[0].Conn() != connected {
		p.one(1)
		p.one(0)
	}
	p.ask(0, api.AskVerify)
	p.told(0, not(api.AskVerify, api.ErrState))
	p.ask(0, api.AskDetach)
	p.told(0, not(api.AskDetach, api.ErrBusy))
	p.is(0, pr, connected, source, uptd)
}

// P20.2: a Primary whose other one is not UpToDate writes all the same, and does not detach.
func TestBehindPeer(t *testing.T) {
	g := newGuest(t, func(m *api.Message) { m.State, m.Line = inco, api.Line{} })
	g.is(0, se, connected, source, uptd)
	g.ask(0, api.AskPromote)
	g.carry()
	g.say(api.Message{Kind: api.MsgPromoted, Yes: true})
	g.command(0, write(1, 3, 7))
	g.hears(g.say(of1(api.MsgAsk, 0, 3)), api.Message{Kind: api.MsgWrite, Num: 1, Block: 3, Data: of(7)}, api.Message{Kind: api.MsgSync, Block: 3, Data: of(7)})
	g.say(api.Message{Kind: api.MsgSynced}, api.Message{Kind: api.MsgState, Role: se, State: outd})
	g.tell()
	g.ask(0, api.AskDetach)
	g.told(0, not(api.AskDetach, api.ErrBusy))
	g.d[0].Fail()
	g.command(0, write(2, 4, 7))
	g.is(0, se, connected, noSync, less)
}

// shakingPair lets node 0 be Shaking.
func shakingPair(t *testing.T, f func(p *pair)) *pair {
	t.Helper()
	p := apart(t, setup())
	if f != nil {
		f(p)
	}
	p.net = [2][][]byte{}
	p.tick(0)
	p.tick(1)
	for p.n[0].Conn() != shaking {
		p.step(0)
		p.one(1)
	}
	p.tell()
	return p
}

// P20.2: where it is Shaking, and what its shake said changes by what is asked, the link is closed.
func TestAnew(t *testing.T) {
	for _, a := range []api.Ask{api.AskDetach, api.AskOutdate} {
		p := shakingPair(t, nil)
		p.ask(0, a)
		p.told(0, ok(a))
		if p.n[0].Conn() != connecting || len(p.last[0].Net) != 1 {
			t.Error(a, p.n[0].Conn(), len(p.last[0].Net))
		}
	}
	alone := func(p *pair) { p.ask(0, api.AskPromote) }
	p := shakingPair(t, alone)
	p.is(0, pr, shaking, noSync, uptd)
	p.ask(0, api.AskDemote)
	p.told(0, ok(api.AskDemote))
	p.is(0, se, connecting, noSync, uptd)
	p = shakingPair(t, nil)
	p.ask(0, api.AskConnect)
	p.ask(0, api.AskAttach)
	p.ask(0, api.AskVerify)
	p.is(0, se, shaking, noSync, uptd)
}

// P20.2: one that attaches is connected anew, but not one that stands alone.
func TestAttachAlone(t *testing.T) {
	p := apart(t, setup())
	p.ask(0, api.AskDetach)
	p.ask(0, api.AskDisconnect)
	p.ask(0, api.AskAttach)
	p.is(0, se, standAlone, noSync, uptd)
	p = apart(t, setup())
	p.ask(0, api.AskDetach)
	p.tick(0)
	p.tell()
	p.ask(0, api.AskAttach)
	p.is(0, se, connecting, noSync, uptd)
	if len(p.last[0].Net) != 0 {
		t.Error("the link that opens stays")
	}
}

// P20.2: a Secondary leaves in order as it detaches; a Primary stays Crashed.
func TestDetachLeaves(t *testing.T) {
	p := reign(t, setup())
	p.command(0, write(1, 3, 7))
	p.carry()
	p.n[0].Store().Map().Mark(5)
	p.ask(0, api.AskDetach)
	p.ask(0, api.AskDemote)
	p.ask(0, api.AskAttach)
	if x := p.n[0].Store().Super(); !x.Crashed {
		t.Error(x)
	}
	p.marked(0, 0, 1, 2, 3)
	p.n[0].Store().Map().Mark(5)
	p.ask(0, api.AskDetach)
	p.ask(0, api.AskAttach)
	if x := p.n[0].Store().Super(); x.Crashed || len(p.n[0].Store().Hot()) != 0 {
		t.Error(x)
	}
	p.marked(0, 0, 1, 2, 3, 5)
}

// P20.2: a Primary that is Shaking starts nothing, though it is alone.
func TestShakingWaits(t *testing.T) {
	p := shakingPair(t, func(p *pair) { p.ask(0, api.AskPromote) })
	p.command(0, write(1, 3, 7))
	p.command(0, of2(api.CmdFlush, 2, 0))
	p.answered(0)
	if len(p.last[0].Made) != 0 || p.n[0].Under() != 2 {
		t.Error(p.last[0].Made)
	}
	p.net = [2][][]byte{}
	p.cut(0, 8)
	p.answered(0, [2]int{1, 0}, [2]int{2, 0})
	p.is(0, pr, connecting, noSync, uptd)
}

// P20.2: a Primary that counts to MaxIdle while Shaking closes the link, and goes on alone.
func TestCountsShaking(t *testing.T) {
	p := reign(t, setup())
	p.ask(1, api.AskDisconnect)
	p.carry()
	p.ask(1, api.AskConnect)
	p.cut(0, 6)
	p.tick(0)
	p.tick(1)
	for p.n[0].Conn() != shaking {
		p.one(0)
		p.one(1)
	}
	if p.n[0].Idle() != 7 {
		t.Error(p.n[0].Idle())
	}
	p.tell()
	p.tick(0)
	if p.is(0, pr, connecting, noSync, uptd); !p.n[0].Alone() || !p.last[0].Fence {
		t.Error("alone")
	}
}

// P20.2: one that is alone already does nothing more as it stands alone.
func TestAloneAlready(t *testing.T) {
	p := apart(t, setup())
	p.ask(0, api.AskPromote)
	p.tell()
	p.ask(0, api.AskDisconnect)
	p.told(0, ok(api.AskDisconnect))
	p.is(0, pr, standAlone, noSync, uptd)
	if o := p.last[0]; o.Fence || len(o.Born) != 0 || p.n[0].Store().Super().Seq != 2 || !p.n[0].Alone() {
		t.Error(o.Fence, o.Born)
	}
}

// P20.2: who is lost knows nothing of the other one, and may be asked again.
func TestLostForgets(t *testing.T) {
	p := gone(t, setup(), 1, 5)
	p.tick(0)
	p.tick(1)
	for p.n[0].Conn() != connected || p.n[1].Conn() != connected {
		p.one(1)
		p.one(0)
	}
	p.net = [2][][]byte{}
	p.cut(0, 8)
	p.cut(1, 8)
	p.is(0, pr, connecting, noSync, uptd)
	p.is(1, se, connecting, noSync, inco)
	p = together(t, setup())
	p.ask(0, api.AskPromote)
	p.net = [2][][]byte{}
	p.cut(0, 8)
	p.tell()
	p.ask(0, api.AskPromote)
	p.told(0, ok(api.AskPromote))
}

// P20.2: the grant is given back behind a shake, and behind a State; who promises gives it back as well, and knows the other one Primary.
func TestGivesBack(t *testing.T) {
	for i := range 2 {
		p := apart(t, setup())
		p.arb.Take(i)
		p.meet()
		p.is(i, se, connected, noSync, uptd)
		p.granted(0, false)
		p.arb.Take(i)
		p.ask(1-i, api.AskPromote)
		p.step(i)
		p.granted(0, false)
		if role, state := p.n[i].Peer(); role != pr || state != uptd {
			t.Error(role, state)
		}
		p.arb.Take(i)
		p.carry()
		p.granted(0, false)
		p.is(1-i, pr, connected, noSync, uptd)
	}
	p := gone(t, setup(), 1)
	p.tick(0)
	p.tick(1)
	for p.n[1].Sync() != syncTarget {
		p.one(1)
		p.one(0)
	}
	p.arb.Release(0)
	p.arb.Take(1)
	for p.n[1].Sync() == syncTarget {
		p.one(0)
		p.one(1)
	}
	p.granted(0, false)
	p.is(1, se, connected, noSync, uptd)
}

// P20.2: the blocks that are kept for a Primary without a disk are marked on the disk.
func TestKeepsSaved(t *testing.T) {
	p := reign(t, setup())
	p.ask(0, api.AskDetach)
	p.carry()
	p.up(1, setup())
	if n := p.n[1].Store().Map().Len(); n != 8 {
		t.Error(n)
	}
}

// P20.2: a write that comes meanwhile is not asked for any more, also where no digests are compared.
func TestTargetWrotePlain(t *testing.T) {
	s := setup()
	s.Digests = false
	p := gone(t, s, 1, 5, 6, 7)
	p.tick(0)
	p.tick(1)
	for p.n[0].Conn() != connected {
		p.one(1)
		p.one(0)
	}
	p.command(0, write(200, 7, 9))
	p.carry()
	if l := p.last[1].Wrote; !slices.Equal(l, []int{1, 5, 6}) {
		t.Error(l)
	}
}

// P20.2: PRIn waits for no read, and no read for it.
func TestReadsTogether(t *testing.T) {
	p := reign(t, setup())
	p.ask(0, api.AskDetach)
	p.command(0, read(1, 3))
	p.command(0, of2(api.CmdPRIn, 2, 0))
	p.answered(0, [2]int{2, 0})
	p.carry()
	p.answered(0, [2]int{1, 0})
}

// P20.2: the shake says what the node is.
func TestShakeSays(t *testing.T) {
	p := apart(t, setup())
	p.n[0].Store().Map().Mark(2)
	p.ask(0, api.AskPromote)
	p.n[0].Store().SaveTable(api.Reserve{})
	g := visit(t, p, api.Message{Kind: api.MsgShake, Node: 1, Blocks: 8, Role: se, State: uptd, Line: api.Line{Current: 1}})
	if len(p.last[0].Met) != 1 {
		t.Fatal("Met")
	}
	table, _ := reserve.Bytes(api.Reserve{})
	want := api.Message{Kind: api.MsgShake, Node: 0, Blocks: 8, Role: pr, State: uptd, Line: api.Line{Current: 101, Base: 1}, Crashed: true, Set: 4, Yes: true, Table: table}
	if m := p.last[0].Met[0]; !message.Same(m.Own, want) || m.Other.Node != 1 || m.Plan.Source != 0 {
		t.Error(m.Own)
	}
	g.is(0, pr, connected, source, uptd)
	p = apart(t, setup())
	p.d[0].Fail()
	p.up(0, setup())
	visit(t, p, api.Message{Kind: api.MsgShake, Node: 1, Blocks: 8, Role: se, State: uptd, Line: api.Line{Current: 1}, Table: bytes.Repeat([]byte{1}, 9)})
	if m := p.last[0].Met[0]; !message.Same(m.Own, api.Message{Kind: api.MsgShake, Blocks: 8, Role: se, State: less}) {
		t.Error(m.Own)
	}
}
