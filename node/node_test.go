package node_test

import (
	"testing"

	"gemel/api"
	"gemel/arbiter"
	"gemel/disk"
	"gemel/node"
	"gemel/store"
)

// P20.1: which setups may be.
func TestMay(t *testing.T) {
	if !node.May(setup()) {
		t.Fatal("May")
	}
	for i, f := range []func(s *api.Setup) bool{
		func(s *api.Setup) bool { s.Blocks = 1; return true }, func(s *api.Setup) bool { s.Hot = 1; return true }, func(s *api.Setup) bool { s.Window = 1; return true }, func(s *api.Setup) bool { s.Cap = 1; return true },
		func(s *api.Setup) bool { s.Blocks = 0; return false }, func(s *api.Setup) bool { s.Blocks = 65; return false }, func(s *api.Setup) bool { s.Blocks = 64; return true }, func(s *api.Setup) bool { s.Blocks = -1; return false },
		func(s *api.Setup) bool { s.Hot = 0; return false }, func(s *api.Setup) bool { s.Hot = 17; return false }, func(s *api.Setup) bool { s.Hot = 16; return true },
		func(s *api.Setup) bool { s.Cap = 0; return false }, func(s *api.Setup) bool { s.Cap = 1001; return false }, func(s *api.Setup) bool { s.Cap = 1000; return true },
		func(s *api.Setup) bool { s.Window = 0; return false }, func(s *api.Setup) bool { s.Window = 17; return false }, func(s *api.Setup) bool { s.Window = 16; return true }, func(s *api.Setup) bool { s.Digests = false; return true },
		func(s *api.Setup) bool { s.Protocol = 0; return false }, func(s *api.Setup) bool { s.Protocol = 4; return false }, func(s *api.Setup) bool { s.Protocol = 1; return true },
		func(s *api.Setup) bool { s.Fencing = 0; return false }, func(s *api.Setup) bool { s.Fencing = 4; return false }, func(s *api.Setup) bool { s.Fencing = 1; return true },
		func(s *api.Setup) bool { s.Policy.Zero = 7; return false }, func(s *api.Setup) bool { s.Policy.Two = 2; return false },
	} {
		s := setup()
		if want := f(&s); node.May(s) != want {
			t.Error(i)
		} else if !want {
			if n, e := node.New(0, s, plate(t, 8, api.Line{Current: 1}, uptd)); n != nil || e != api.ErrArg {
				t.Error(i, e)
			}
		}
	}
}

// P20.1: coming up.
func TestNew(t *testing.T) {
	for _, d := range []*disk.Disk{nil, {}} {
		if n, e := node.New(7, api.Setup{}, d); n != nil || e != api.ErrNil {
			t.Error(e)
		}
	}
	d := plate(t, 8, api.Line{Current: 5}, outd)
	small, _ := disk.New(16)
	for _, id := range []int{-1, 2} {
		if n, e := node.New(id, setup(), d); n != nil || e != api.ErrArg {
			t.Error(e)
		}
	}
	if n, e := node.New(0, setup(), small); n != nil || e != api.ErrArg {
		t.Error(e)
	}
	n, e := node.New(1, setup(), d)
	if e != api.OK || n.Role() != se || n.Conn() != connecting || n.Sync() != noSync || n.State() != outd || n.Store().Super().Line.Current != 5 || n.Alone() || n.Under() != 0 || len(n.Behind()) != 0 || n.Idle() != 0 {
		t.Error(e)
	}
	if role, state := n.Peer(); role != 0 || state != 0 {
		t.Error(role, state)
	}
	blank, _ := disk.New(17)
	if n, e := node.New(0, setup(), blank); e != api.OK || n.State() != inco || n.Store().Super().Line != (api.Line{}) {
		t.Error(e)
	}
	if x, e := store.Attach(blank, 8, 2); e != api.OK || x.Super().State != inco {
		t.Error("formatted", e)
	}
	blank, _ = disk.New(17)
	blank.Fuse(3)
	if n, e := node.New(0, setup(), blank); n != nil || e != api.ErrDead {
		t.Error(e)
	}
	s, _ := store.Attach(d, 8, 2)
	s.Set(api.Super{State: uptd, Crashed: true})
	d.Fuse(0)
	if n, e := node.New(0, setup(), d); n != nil || e != api.ErrDead {
		t.Error(e)
	}
	d.Fail()
	if n, e := node.New(0, setup(), d); e != api.OK || n.State() != less || n.Store() != nil || n.Table() != (api.Reserve{}) {
		t.Error(e)
	}
}

// P20.1: the table is the disk's.
func TestNewTable(t *testing.T) {
	d := plate(t, 8, api.Line{Current: 5}, uptd)
	table := api.Reserve{Gen: 3, Keys: [16]uint64{7}}
	s, _ := store.Attach(d, 8, 2)
	s.SaveTable(table)
	if n, _ := node.New(0, setup(), d); n.Table() != table {
		t.Error(n.Table())
	}
}

// P20.2, P20.3: nil and zero nodes, and steps that have nobody to ask, do nothing.
func TestNil(t *testing.T) {
	p := together(t, setup())
	good := p.env()
	quiet := func(n *node.Node, v node.Env) {
		t.Helper()
		for i, o := range []api.Out{n.Take(v, []byte{1}), n.Tick(v), n.Command(v, read(1, 0)), n.Ask(v, api.AskPromote), n.Ask(v, 0)} {
			if len(o.Net) != 0 || len(o.Answers) != 0 || len(o.Done) != 0 || o.Fence || len(o.Born) != 0 || len(o.Met) != 0 || len(o.Wrote) != 0 || len(o.Made) != 0 {
				t.Error(i)
			}
		}
	}
	for _, n := range []*node.Node{nil, {}} {
		quiet(n, good)
		role, state := n.Peer()
		if n.Role() != 0 || n.Conn() != 0 || n.Sync() != 0 || n.State() != 0 || role != 0 || state != 0 || n.Store() != nil || n.Table() != (api.Reserve{}) || n.Alone() || n.Under() != 0 || len(n.Behind()) != 0 || n.Idle() != 0 {
			t.Error("nil")
		}
	}
	for _, v := range []node.Env{{}, {Draw: good.Draw}, {Arbiter: good.Arbiter}, {Arbiter: &arbiter.Arbiter{}, Draw: good.Draw}} {
		quiet(p.n[0], v)
	}
	if p.n[0].Idle() != 0 || p.n[0].Role() != se {
		t.Error("changed")
	}
}

// P20.2: what is asked that there is not.
func TestAskNone(t *testing.T) {
	p := apart(t, setup())
	for _, a := range []api.Ask{0, 10, -1, 1 << 40} {
		p.ask(0, a)
		p.told(0, api.Done{What: a, Code: api.ErrArg})
	}
}

// P20.2: two that come up are Connected, and nothing goes; what was met is told.
func TestMeet(t *testing.T) {
	p := apart(t, setup())
	p.tick(0)
	p.tick(1)
	p.is(0, se, connecting, noSync, uptd)
	p.carry()
	p.is(0, se, connected, noSync, uptd)
	p.is(1, se, connected, noSync, uptd)
	o := p.tell()
	for i := range 2 {
		role, state := p.n[i].Peer()
		if role != se || state != uptd || len(o[i].Born) != 0 || o[i].Fence {
			t.Error(i, role, state)
		}
		if m := o[i].Met; len(m) != 1 || m[0].Own.Node != i || m[0].Other.Node != 1-i || m[0].Plan != (api.Plan{Verdict: 4, Source: -1}) || m[0].Code != api.OK || m[0].Own.Line.Current != 1 || len(m[0].Own.Table) != 138 || m[0].Own.Yes || m[0].Own.Blocks != 8 {
			t.Error(i, m)
		}
	}
	p.granted(0, false)
}

// P20.2: a tick opens a link that is Down with a draw; one of 0 does not.
func TestTickDraws(t *testing.T) {
	p := apart(t, setup())
	draws := []uint64{0, 0, 7}
	v := node.Env{Arbiter: p.arb, Draw: func() uint64 { x := draws[0]; draws = draws[1:]; return x }}
	for i, want := range []int{0, 0, 1, 1} {
		if o := p.n[0].Tick(v); len(o.Net) != want || len(draws) != max(0, 2-i) {
			t.Error(i, len(o.Net), draws)
		}
	}
}

// P20.2: bytes that are none's, and messages where nobody is Connected, do nothing.
func TestTakeNone(t *testing.T) {
	p := together(t, setup())
	for _, b := range [][]byte{nil, {}, {1, 2, 3}, make([]byte, 5000)} {
		if o := p.n[0].Take(p.env(), b); len(o.Net) != 0 || len(o.Met) != 0 {
			t.Error(len(b))
		}
	}
	p.is(0, se, connected, noSync, uptd)
}
