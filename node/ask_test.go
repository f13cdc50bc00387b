package node_test

import (
	"testing"

	"gemel/api"
)

func ok(a api.Ask) api.Done { return api.Done{What: a} }

func not(a api.Ask, e api.Errno) api.Done { return api.Done{What: a, Code: e} }

// P20.2: AskPromote of one that is Connected: the other one is asked.
func TestPromoteConnected(t *testing.T) {
	p := together(t, setup())
	p.tell()
	p.ask(0, api.AskPromote)
	p.told(0)
	p.is(0, se, connected, noSync, uptd)
	p.said(0, api.MsgPromote)
	p.ask(0, api.AskPromote)
	p.told(0, not(api.AskPromote, api.ErrBusy))
	p.carry()
	p.told(0, ok(api.AskPromote))
	p.is(0, pr, connected, noSync, uptd)
	p.said(1, api.MsgPromoted)
	p.said(0, api.MsgState)
	if !p.n[0].Store().Super().Crashed || p.n[0].Alone() || p.last[0].Fence || len(p.last[0].Born) != 0 {
		t.Error("Primary")
	}
	if role, state := p.n[1].Peer(); role != pr || state != uptd {
		t.Error(role, state)
	}
	p.ask(0, api.AskPromote)
	p.told(0, not(api.AskPromote, api.ErrState))
	p.ask(1, api.AskPromote)
	p.carry()
	p.told(1, not(api.AskPromote, api.ErrPeer))
	p.is(1, se, connected, noSync, uptd)
	p.granted(0, false)
}

// P20.2: both ask at once: node 0 is Primary.
func TestPromoteBoth(t *testing.T) {
	for _, first := range []int{0, 1} {
		p := together(t, setup())
		p.tell()
		p.ask(first, api.AskPromote)
		p.ask(1-first, api.AskPromote)
		p.carry()
		p.told(0, ok(api.AskPromote))
		p.told(1, not(api.AskPromote, api.ErrPeer))
		p.is(0, pr, connected, noSync, uptd)
		p.is(1, se, connected, noSync, uptd)
	}
}

// P20.2: who promises another one's being Primary gives the grant back.
func TestPromoteGivesBack(t *testing.T) {
	p := together(t, setup())
	p.arb.Take(1)
	p.ask(0, api.AskPromote)
	p.carry()
	p.granted(0, false)
}

// P20.2: AskPromote of one that is not UpToDate.
func TestPromoteStale(t *testing.T) {
	p := apart(t, setup())
	p.ask(0, api.AskOutdate)
	p.ask(0, api.AskPromote)
	p.told(0, ok(api.AskOutdate), not(api.AskPromote, api.ErrStale))
	p.d[0].Fail()
	p.up(0, setup())
	p.ask(0, api.AskPromote)
	p.told(0, not(api.AskPromote, api.ErrStale))
	p.granted(0, false)
}

// P20.2: AskPromote of one that is not Connected: by the grant, with a generation, and a fence under Stonith alone.
func TestPromoteAlone(t *testing.T) {
	for fencing := api.DontCare; fencing <= api.Stonith; fencing++ {
		s := setup()
		s.Fencing = fencing
		p := apart(t, s)
		p.ask(0, api.AskPromote)
		p.told(0, ok(api.AskPromote))
		p.is(0, pr, connecting, noSync, uptd)
		p.granted(0, fencing != api.DontCare)
		x := p.n[0].Store().Super()
		if !p.n[0].Alone() || p.last[0].Fence != (fencing == api.Stonith) || len(p.last[0].Born) != 1 || p.last[0].Born[0] != (api.Born{Parent: 1, Child: 101}) || x.Line != (api.Line{Current: 101, Base: 1}) || !x.Crashed || x.State != uptd {
			t.Error(fencing, p.last[0].Fence, p.last[0].Born, x)
		}
		p.ask(1, api.AskPromote)
		if fencing == api.DontCare {
			p.told(1, ok(api.AskPromote))
			continue
		}
		p.told(1, not(api.AskPromote, api.ErrHeld))
		p.is(1, se, connecting, noSync, uptd)
		if p.last[1].Fence || len(p.last[1].Born) != 0 || p.n[1].Store().Super().Crashed {
			t.Error("what is refused changes nothing")
		}
	}
}

// P20.2: AskPromote while Shaking: the link is closed, and opened anew.
func TestPromoteShaking(t *testing.T) {
	p := apart(t, setup())
	for p.n[0].Conn() != shaking {
		if !p.one(0) && !p.one(1) {
			p.tick(0)
			p.tick(1)
		}
	}
	p.tell()
	p.arb.Take(1)
	p.ask(0, api.AskPromote)
	p.told(0, not(api.AskPromote, api.ErrHeld))
	p.is(0, se, shaking, noSync, uptd)
	p.arb.Release(1)
	p.ask(0, api.AskPromote)
	p.is(0, pr, connecting, noSync, uptd)
	p.meet()
	p.is(0, pr, connected, noSync, uptd)
	p.is(1, se, connected, noSync, uptd)
	if p.n[0].Alone() {
		t.Error("it is not alone any more")
	}
	p.granted(0, false)
}

// P20.2: promoting ends, where the other one is lost, or the own device is not UpToDate any more.
func TestPromoteEnds(t *testing.T) {
	p := together(t, setup())
	p.tell()
	p.ask(0, api.AskPromote)
	p.net = [2][][]byte{}
	p.ask(1, api.AskDisconnect)
	p.carry()
	p.told(0, not(api.AskPromote, api.ErrState))
	p.is(0, se, connecting, noSync, uptd)
	p.is(1, se, standAlone, noSync, uptd)

	p = together(t, setup())
	p.tell()
	p.ask(0, api.AskPromote)
	p.ask(0, api.AskDetach)
	p.said(0, api.MsgPromote, api.MsgState)
	p.carry()
	p.told(0, ok(api.AskDetach), not(api.AskPromote, api.ErrStale))
	p.said(0, api.MsgState)
	p.is(0, se, connected, noSync, less)

	p = together(t, setup())
	p.tell()
	p.ask(0, api.AskPromote)
	p.d[0].Fail()
	p.carry()
	p.told(0, not(api.AskPromote, api.ErrStale))
	p.said(0, api.MsgPromote, api.MsgState, api.MsgState)
	p.is(0, se, connected, noSync, less)
	if role, state := p.n[1].Peer(); role != se || state != less {
		t.Error(role, state)
	}
}

// P20.2: one that is Connected to one without a disk goes on alone as it is promoted.
func TestPromoteUnmirrored(t *testing.T) {
	p := together(t, setup())
	p.ask(1, api.AskDetach)
	p.carry()
	p.tell()
	p.ask(0, api.AskPromote)
	p.carry()
	p.told(0, ok(api.AskPromote))
	p.is(0, pr, connected, noSync, uptd)
	p.granted(0, true)
	if !p.n[0].Alone() || !p.last[0].Fence || len(p.last[0].Born) != 1 {
		t.Error("alone")
	}
}

// P20.2: AskForce.
func TestForce(t *testing.T) {
	p := together(t, setup())
	p.ask(1, api.AskPromote)
	p.carry()
	p.tell()
	p.ask(1, api.AskForce)
	p.told(1, not(api.AskForce, api.ErrState))
	p.ask(0, api.AskForce)
	p.told(0, not(api.AskForce, api.ErrPeer))
	p.is(0, se, connected, noSync, uptd)

	p = apart(t, setup())
	p.d[0].Fail()
	p.up(0, setup())
	p.ask(0, api.AskForce)
	p.told(0, not(api.AskForce, api.ErrStale))

	p = together(t, setup())
	p.tell()
	p.arb.Take(1)
	p.ask(0, api.AskPromote)
	p.net = [2][][]byte{}
	p.ask(0, api.AskForce)
	p.told(0, not(api.AskPromote, api.ErrState), ok(api.AskForce))
	p.is(0, pr, standAlone, noSync, uptd)
	p.granted(1, true)
	if !p.n[0].Alone() || p.last[0].Fence || len(p.last[0].Born) != 1 || p.n[0].Store().Super().Seq != 3 {
		t.Error(p.last[0].Fence, p.n[0].Store().Super())
	}
	p.carry()
	p.is(1, se, connecting, noSync, uptd)

	p = apart(t, setup())
	p.ask(0, api.AskOutdate)
	p.ask(0, api.AskForce)
	p.is(0, pr, standAlone, noSync, uptd)
	for _, fuse := range []int{0, 1, 2, 3} {
		p = apart(t, setup())
		p.d[0].Fuse(fuse)
		p.ask(0, api.AskForce)
		p.told(0, not(api.AskForce, api.ErrIO))
		p.is(0, se, standAlone, noSync, less)
	}
}

// P20.2: AskDemote.
func TestDemote(t *testing.T) {
	p := reign(t, setup())
	p.ask(1, api.AskDemote)
	p.told(1, not(api.AskDemote, api.ErrState))
	p.command(0, write(1, 3, 7))
	p.ask(0, api.AskDemote)
	p.told(0, not(api.AskDemote, api.ErrBusy))
	p.carry()
	p.tell()
	p.n[0].Store().Map().Mark(5)
	p.ask(0, api.AskDemote)
	p.told(0, ok(api.AskDemote))
	p.said(0, api.MsgState)
	p.is(0, se, connected, noSync, uptd)
	if x := p.n[0].Store().Super(); x.Crashed || len(p.n[0].Store().Hot()) != 0 {
		t.Error(x)
	}
	p.carry()
	if role, _ := p.n[1].Peer(); role != se {
		t.Error(role)
	}
}

// P20.2: AskDemote of one that is alone keeps the grant; one whose disk fails by it detaches, and is told OK.
func TestDemoteAlone(t *testing.T) {
	p := apart(t, setup())
	p.ask(0, api.AskPromote)
	p.tell()
	p.ask(0, api.AskDemote)
	p.told(0, ok(api.AskDemote))
	p.is(0, se, connecting, noSync, uptd)
	p.granted(0, true)
	if p.n[0].Alone() {
		t.Error("alone")
	}
	p = reign(t, setup())
	p.d[0].Fail()
	p.ask(0, api.AskDemote)
	p.told(0, ok(api.AskDemote))
	p.said(0, api.MsgState, api.MsgState)
	p.is(0, se, connected, noSync, less)
}

// P20.2: by ProtocolA a write may be answered that the other one may not have: one is busy.
func TestDemoteBehind(t *testing.T) {
	s := setup()
	s.Protocol = api.ProtocolA
	p := reign(t, s)
	p.command(0, write(1, 3, 7))
	p.answered(0, [2]int{1, 0})
	p.ask(0, api.AskDemote)
	p.told(0, not(api.AskDemote, api.ErrBusy))
}

// P20.2: AskConnect, AskDisconnect.
func TestConnect(t *testing.T) {
	p := together(t, setup())
	p.tell()
	p.ask(0, api.AskConnect)
	p.told(0, not(api.AskConnect, api.ErrState))
	p.ask(0, api.AskDisconnect)
	p.told(0, ok(api.AskDisconnect))
	p.is(0, se, standAlone, noSync, uptd)
	p.ask(0, api.AskDisconnect)
	p.told(0, not(api.AskDisconnect, api.ErrState))
	p.carry()
	p.is(1, se, connecting, noSync, uptd)
	p.meet()
	p.is(0, se, standAlone, noSync, uptd)
	p.ask(0, api.AskConnect)
	p.told(0, ok(api.AskConnect))
	p.is(0, se, connecting, noSync, uptd)
	p.meet()
	p.is(0, se, connected, noSync, uptd)
	p.is(1, se, connected, noSync, uptd)
}

// P20.2: a Primary that disconnects goes on alone; one that may not stays not alone.
func TestDisconnectPrimary(t *testing.T) {
	p := reign(t, setup())
	p.command(0, write(1, 3, 7))
	p.ask(0, api.AskDisconnect)
	p.told(0, ok(api.AskDisconnect))
	p.answered(0, [2]int{1, 0})
	p.is(0, pr, standAlone, noSync, uptd)
	p.marked(0, 3)
	p.granted(0, true)
	if !p.n[0].Alone() || !p.last[0].Fence || len(p.last[0].Born) != 1 || len(p.n[0].Behind()) != 0 {
		t.Error("alone")
	}
	p = reign(t, setup())
	p.arb.Take(1)
	p.command(0, write(1, 3, 7))
	p.ask(0, api.AskDisconnect)
	p.told(0, ok(api.AskDisconnect))
	p.answered(0)
	p.is(0, pr, standAlone, noSync, uptd)
	if p.n[0].Alone() || p.last[0].Fence || p.n[0].Under() != 1 || len(p.n[0].Behind()) != 1 {
		t.Error("not alone")
	}
	for i := 1; i < 8; i++ {
		if p.tick(0); p.n[0].Idle() != i {
			t.Error(i, p.n[0].Idle())
		}
	}
	p.arb.Release(1)
	p.tick(0)
	p.answered(0, [2]int{1, 0})
	if !p.n[0].Alone() || p.n[0].Idle() != 0 {
		t.Error("at MaxIdle it goes on alone")
	}
}

// P20.2: AskDetach, AskAttach.
func TestDetachAttach(t *testing.T) {
	p := together(t, setup())
	p.tell()
	p.ask(0, api.AskAttach)
	p.told(0, not(api.AskAttach, api.ErrState))
	p.ask(0, api.AskDetach)
	p.told(0, ok(api.AskDetach))
	p.said(0, api.MsgState)
	p.is(0, se, connected, noSync, less)
	p.ask(0, api.AskDetach)
	p.told(0, not(api.AskDetach, api.ErrState))
	p.carry()
	if role, state := p.n[1].Peer(); role != se || state != less {
		t.Error(role, state)
	}
	p.ask(0, api.AskAttach)
	p.told(0, ok(api.AskAttach))
	p.is(0, se, connecting, noSync, uptd)
	p.meet()
	p.is(0, se, connected, noSync, uptd)
	p.is(1, se, connected, noSync, uptd)

	p.ask(0, api.AskDetach)
	p.d[0].Fail()
	p.tell()
	p.ask(0, api.AskAttach)
	p.told(0, not(api.AskAttach, api.ErrIO))
	p.d[0].Blank()
	p.ask(0, api.AskAttach)
	p.told(0, ok(api.AskAttach))
	p.is(0, se, connecting, noSync, inco)

	p = together(t, setup())
	p.tell()
	p.d[0].Fail()
	p.ask(0, api.AskDetach)
	p.told(0, ok(api.AskDetach))
	p.said(0, api.MsgState)
	p.is(0, se, connected, noSync, less)
}

// P20.2: a disk that dies as it is attached is told as one that failed.
func TestAttachDead(t *testing.T) {
	p := together(t, setup())
	p.ask(0, api.AskPromote)
	p.carry()
	p.ask(0, api.AskDetach)
	p.carry()
	p.ask(0, api.AskDemote)
	p.tell()
	p.d[0].Fuse(0)
	p.ask(0, api.AskAttach)
	p.told(0, not(api.AskAttach, api.ErrIO))
}

// P20.2: a Primary detaches where the other one is UpToDate, and nothing goes; it reads and writes by it.
func TestDetachPrimary(t *testing.T) {
	p := apart(t, setup())
	p.ask(0, api.AskPromote)
	p.tell()
	p.ask(0, api.AskDetach)
	p.told(0, not(api.AskDetach, api.ErrBusy))
	p.is(0, pr, connecting, noSync, uptd)

	p = reign(t, setup())
	p.arb.Take(0)
	p.ask(0, api.AskDetach)
	p.told(0, ok(api.AskDetach))
	p.is(0, pr, connected, noSync, less)
	p.granted(0, false)
	p.ask(0, api.AskAttach)
	p.told(0, not(api.AskAttach, api.ErrState))
	p.carry()
	p.granted(1, true)
	x := p.n[1].Store().Super()
	if len(p.last[1].Born) != 1 || p.last[1].Fence || !x.Crashed || x.Line.Base != 1 || p.n[1].Store().Map().Len() != 8 || p.n[1].Alone() {
		t.Error("the other one keeps the blocks for it", p.last[1].Born, x)
	}
	p.tell()
	p.command(0, write(1, 3, 7))
	p.command(0, read(2, 3))
	p.answered(0)
	p.carry()
	if a := p.last[0].Answers; len(a) != 2 || a[1].Data != of(7) {
		t.Error(a)
	}
	p.answered(0, [2]int{1, 0}, [2]int{2, 0})
	p.reads(1, 3, 7)
}

// P20.2: AskOutdate.
func TestOutdate(t *testing.T) {
	p := together(t, setup())
	p.tell()
	p.ask(0, api.AskOutdate)
	p.told(0, not(api.AskOutdate, api.ErrState))
	p = apart(t, setup())
	p.ask(0, api.AskOutdate)
	p.told(0, ok(api.AskOutdate))
	p.is(0, se, connecting, noSync, outd)
	p.ask(0, api.AskOutdate)
	p.told(0, not(api.AskOutdate, api.ErrStale))
	p.ask(1, api.AskPromote)
	p.tell()
	p.ask(1, api.AskOutdate)
	p.told(1, not(api.AskOutdate, api.ErrState))
	p = apart(t, setup())
	p.d[0].Fail()
	p.ask(0, api.AskOutdate)
	p.told(0, not(api.AskOutdate, api.ErrIO))
	p.is(0, se, connecting, noSync, less)
}

// P20.2: AskVerify; what differs is marked, and made the same.
func TestVerify(t *testing.T) {
	p := apart(t, setup())
	p.ask(0, api.AskVerify)
	p.told(0, not(api.AskVerify, api.ErrState))
	p = together(t, setup())
	p.tell()
	p.ask(0, api.AskVerify)
	p.ask(0, api.AskVerify)
	p.told(0, not(api.AskVerify, api.ErrBusy))
	p.carry()
	p.told(0, ok(api.AskVerify))
	p.is(0, se, connected, noSync, uptd)

	p.n[1].Store().Write(5, of(9), false)
	p.ask(0, api.AskVerify)
	p.carry()
	p.told(0, ok(api.AskVerify))
	p.marked(0, 5)
	p.is(0, se, connecting, noSync, uptd)
	p.tell()
	p.meet()
	p.is(0, se, connected, noSync, uptd)
	p.is(1, se, connected, noSync, uptd)
	p.reads(1, 5, 0)
	if w := p.last[1].Wrote; len(w) != 1 || w[0] != 5 {
		t.Error(w)
	}
	p.marked(0)
	p.marked(1)
	p.ask(1, api.AskDetach)
	p.carry()
	p.tell()
	p.ask(0, api.AskVerify)
	p.ask(1, api.AskVerify)
	p.told(0, not(api.AskVerify, api.ErrState))
}

// P20.2: a verify ends untold where the other one is lost, or the own disk failed.
func TestVerifyEnds(t *testing.T) {
	p := together(t, setup())
	p.tell()
	p.ask(0, api.AskVerify)
	p.cut(0, 8)
	p.told(0)
	p.is(0, se, connecting, noSync, uptd)
	p.meet()
	p.is(0, se, connected, noSync, uptd)
	p.ask(0, api.AskVerify)
	p.carry()
	p.told(0, ok(api.AskVerify))

	p.ask(0, api.AskVerify)
	p.ask(0, api.AskDetach)
	p.carry()
	p.told(0, ok(api.AskDetach))
	p.d[1].Fail()
	p.ask(1, api.AskVerify)
	p.told(1, not(api.AskVerify, api.ErrState))
	p = together(t, setup())
	p.tell()
	p.d[0].Fail()
	p.ask(0, api.AskVerify)
	p.told(0, not(api.AskVerify, api.ErrIO))
	p.said(0, api.MsgState)
}
