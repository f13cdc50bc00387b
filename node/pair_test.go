package node_test

import (
	"slices"
	"testing"

	"gemel/api"
	"gemel/arbiter"
	"gemel/disk"
	"gemel/message"
	"gemel/node"
	"gemel/packet"
	"gemel/store"
)

const (
	se, pr                     = api.Secondary, api.Primary
	less, inco, outd, uptd     = api.Diskless, api.Inconsistent, api.Outdated, api.UpToDate
	standAlone, connecting     = api.StandAlone, api.Connecting
	shaking, connected         = api.Shaking, api.Connected
	noSync, source, syncTarget = api.NoSync, api.SyncSource, api.SyncTarget
)

func setup() api.Setup {
	return api.Setup{Blocks: 8, Hot: 2, Cap: 2, Window: 2, Digests: true, Protocol: api.ProtocolC, Fencing: api.Stonith, Policy: api.Policy{Zero: 1, One: 1, Two: 1}}
}

// pair are two nodes, and a net that carries all, in order.
type pair struct {
	t     *testing.T
	arb   *arbiter.Arbiter
	draws uint64
	d     [2]*disk.Disk
	n     [2]*node.Node
	net   [2][][]byte // what goes to a node
	last  [2]api.Out  // what a node told since it was asked
	lossy bool
}

func plate(t *testing.T, blocks int, l api.Line, state api.State) *disk.Disk {
	t.Helper()
	d, e := disk.New(store.Size(blocks))
	if e == api.OK {
		e = store.Format(d, blocks, l, state)
	}
	if e != api.OK {
		t.Fatal(e)
	}
	return d
}

// apart are two that came up, and were told nothing yet.
func apart(t *testing.T, s api.Setup) *pair {
	t.Helper()
	p := &pair{t: t, arb: arbiter.New(), draws: 100}
	for i := range 2 {
		p.d[i] = plate(t, s.Blocks, api.Line{Current: 1}, uptd)
		p.up(i, s)
	}
	return p
}

func (p *pair) up(i int, s api.Setup) {
	p.t.Helper()
	n, e := node.New(i, s, p.d[i])
	if e != api.OK {
		p.t.Fatal(e)
	}
	p.n[i] = n
}

// together are two that are Connected.
func together(t *testing.T, s api.Setup) *pair {
	t.Helper()
	p := apart(t, s)
	p.meet()
	p.is(0, se, connected, noSync, uptd)
	p.is(1, se, connected, noSync, uptd)
	return p
}

// reign are two that are Connected, the node 0 being Primary.
func reign(t *testing.T, s api.Setup) *pair {
	t.Helper()
	p := together(t, s)
	p.ask(0, api.AskPromote)
	p.carry()
	p.is(0, pr, connected, noSync, uptd)
	p.tell()
	return p
}

func (p *pair) env() node.Env {
	return node.Env{Arbiter: p.arb, Draw: func() uint64 { p.draws++; return p.draws }}
}

func (p *pair) took(i int, o api.Out) {
	if !p.lossy {
		p.net[1-i] = append(p.net[1-i], o.Net...)
	}
	l := &p.last[i]
	l.Answers = append(l.Answers, o.Answers...)
	l.Done = append(l.Done, o.Done...)
	l.Fence = l.Fence || o.Fence
	l.Born = append(l.Born, o.Born...)
	l.Met = append(l.Met, o.Met...)
	l.Wrote = append(l.Wrote, o.Wrote...)
	l.Made = append(l.Made, o.Made...)
	l.Net = append(l.Net, o.Net...)
}

// tell is what both told since it was asked.
func (p *pair) tell() [2]api.Out {
	l := p.last
	p.last = [2]api.Out{}
	return l
}

func (p *pair) ask(i int, a api.Ask) { p.took(i, p.n[i].Ask(p.env(), a)) }

func (p *pair) command(i int, c api.Command) { p.took(i, p.n[i].Command(p.env(), c)) }

func (p *pair) tick(i int) { p.took(i, p.n[i].Tick(p.env())) }

// one carries one datagram to a node.
func (p *pair) one(i int) bool {
	if len(p.net[i]) == 0 {
		return false
	}
	b := p.net[i][0]
	p.net[i] = p.net[i][1:]
	p.took(i, p.n[i].Take(p.env(), b))
	return true
}

func (p *pair) carry() {
	p.t.Helper()
	for range 2000 {
		if !p.one(0) && !p.one(1) {
			return
		}
	}
	p.t.Fatal("it does not end")
}

func (p *pair) meet() {
	p.t.Helper()
	for range 3 {
		p.tick(0)
		p.tick(1)
		p.carry()
	}
}

// cut lets all be lost, and both be silent, for so many ticks of a node.
func (p *pair) cut(i, ticks int) {
	p.lossy = true
	p.net = [2][][]byte{}
	for range ticks {
		p.tick(i)
	}
	p.lossy = false
}

func (p *pair) is(i int, role api.Role, conn api.Conn, sync api.Sync, state api.State) {
	p.t.Helper()
	n := p.n[i]
	if n.Role() != role || n.Conn() != conn || n.Sync() != sync || n.State() != state {
		p.t.Error("node", i, "role", n.Role(), "conn", n.Conn(), "sync", n.Sync(), "state", n.State())
	}
}

func (p *pair) granted(node int, held bool) {
	p.t.Helper()
	if i, ok := p.arb.Holder(); i != node || ok != held {
		p.t.Error("grant", i, ok)
	}
}

// told holds what a node told of what was asked against what it should.
func (p *pair) told(i int, want ...api.Done) {
	p.t.Helper()
	if got := p.last[i].Done; !slices.Equal(got, want) {
		p.t.Error("node", i, "told", got, "not", want)
	}
	p.last[i].Done = nil
}

// answered holds the numbers, and codes, of what a node answered against what it should.
func (p *pair) answered(i int, want ...[2]int) {
	p.t.Helper()
	var got [][2]int
	for _, a := range p.last[i].Answers {
		got = append(got, [2]int{int(a.Num), int(a.Code)})
	}
	if !slices.Equal(got, want) {
		p.t.Error("node", i, "answered", got, "not", want)
	}
	p.last[i].Answers = nil
}

func (p *pair) reads(i, block int, want byte) {
	p.t.Helper()
	if b, e := p.n[i].Store().Read(block); b != of(want) || e != api.OK {
		p.t.Error("node", i, "block", block, b[0], e)
	}
}

func (p *pair) marked(i int, want ...int) {
	p.t.Helper()
	if l := slices.Collect(p.n[i].Store().Map().All()); !slices.Equal(l, want) {
		p.t.Error("node", i, "marked", l, "not", want)
	}
}

// says are the messages in what a node sent since it was asked, each once.
func (p *pair) says(i int) []api.Message {
	var out []api.Message
	seen := uint64(0)
	for _, b := range p.last[i].Net {
		k, e := packet.Of(b)
		if e != api.OK || k.Kind != api.PacketData || k.Seq <= seen {
			continue
		}
		seen = k.Seq
		m, e := message.Of(k.Payload)
		if e != api.OK {
			p.t.Error(e)
		}
		out = append(out, m)
	}
	p.last[i].Net = nil
	return out
}

// said holds the kinds of what a node sent against what they should be.
func (p *pair) said(i int, want ...api.MsgKind) {
	p.t.Helper()
	var got []api.MsgKind
	for _, m := range p.says(i) {
		got = append(got, m.Kind)
	}
	if !slices.Equal(got, want) {
		p.t.Error("node", i, "said", got, "not", want)
	}
}

func of(x byte) api.Block { return api.Block{x} }

func write(num uint64, block int, x byte) api.Command {
	return api.Command{Num: num, Kind: api.CmdWrite, Block: block, Data: of(x)}
}

func read(num uint64, block int) api.Command {
	return api.Command{Num: num, Kind: api.CmdRead, Block: block}
}
