package node_test

import (
	"bytes"
	"math/rand"
	"testing"

	"gemel/api"
	"gemel/link"
	"gemel/message"
	"gemel/reserve"
)

// anything is some message that may be, whoever would say it, and when.
func anything(r *rand.Rand) api.Message {
	pick := func(n int) int { return r.Intn(n) }
	m := api.Message{Kind: api.MsgKind(1 + pick(19))}
	table, _ := reserve.Bytes(api.Reserve{Gen: uint64(pick(5)), Keys: [16]uint64{uint64(pick(3))}})
	if pick(3) == 0 {
		table = table[:pick(20)]
	}
	for _, c := range message.Names(m.Kind) {
		switch c {
		case 'n':
			m.Node = pick(2)
		case 'b':
			m.Blocks = 8 - pick(9)/8
		case 'r':
			m.Role = api.Role(1 + pick(2))
		case 's':
			m.State = api.State(1 + pick(4))
		case 'l':
			m.Line = api.Line{Current: uint64(pick(4)), History: [2]uint64{uint64(pick(4)), 0}}
			if b := uint64(4 + pick(3)); pick(2) == 0 {
				m.Line.Base = b
			}
		case 'c':
			m.Crashed = pick(2) == 0
		case 't':
			m.Set = uint64(pick(128))
		case 'u':
			m.Num = uint64(pick(12))
		case 'k':
			m.Block = pick(11)
		case 'y':
			m.Yes = pick(2) == 0
		case 'g':
			m.Digest = bytes.Repeat([]byte{byte(pick(3))}, 32)
		case 'a':
			m.Table = table
		}
	}
	if m.Kind == api.MsgShake && m.State == api.Diskless {
		m.Line, m.Set, m.Table = api.Line{}, 0, nil
	}
	return m
}

// P0.6: whatever a stranger says, no call panics, and what is told stays in its bounds.
func TestStranger(t *testing.T) {
	conns := map[api.Conn]int{}
	for seed := range int64(400) {
		r := rand.New(rand.NewSource(seed))
		s := setup()
		s.Protocol, s.Fencing = api.Protocol(1+r.Intn(3)), api.Fencing(1+r.Intn(3))
		p := apart(t, s)
		x, nonce := link.New(), uint64(1<<50)
		say := func(m api.Message) {
			if b, e := message.Bytes(m); e == api.OK {
				x.Send(b)
			}
		}
		for range 300 {
			if x.State() == api.LinkDown {
				nonce++
				x.Open(nonce)
			}
			for _, b := range x.Out() {
				p.took(0, p.n[0].Take(p.env(), b))
			}
			switch r.Intn(12) {
			case 0, 1, 2:
				p.tick(0)
			case 3:
				p.ask(0, api.Ask(1+r.Intn(9)))
			case 4, 5:
				p.command(0, api.Command{Num: uint64(r.Intn(9)), Kind: api.CmdKind(1 + r.Intn(6)), Block: r.Intn(3)})
			case 6:
				p.command(0, action(1, r.Intn(3), api.Action{Kind: api.ResKind(1 + r.Intn(6)), New: uint64(r.Intn(3))}))
			case 7:
				if r.Intn(20) == 0 {
					p.d[0].Fail()
				} else if r.Intn(20) == 0 {
					p.d[0].Fuse(r.Intn(4))
				} else if p.n[0].Store() == nil {
					p.d[0].Blank()
				}
			case 8:
				x.Tick()
			default:
				m := anything(r)
				if p.n[0].Conn() == shaking && r.Intn(3) > 0 {
					m = api.Message{Kind: api.MsgShake, Node: 1, Blocks: 8, Role: se, State: uptd, Line: p.n[0].Store().Super().Line}
				}
				say(m)
			}
			for _, b := range p.net[1] {
				x.Take(b)
			}
			p.net[1] = nil
			n := p.n[0]
			conns[n.Conn()]++
			if n.Role() != se && n.Role() != pr || n.Conn() < standAlone || n.Conn() > connected || n.Role() == se && (n.Under() != 0 || n.Alone()) || (n.Store() == nil) != (n.State() == less) {
				t.Fatal(seed, n.Role(), n.Conn(), n.Under(), n.State())
			}
		}
	}
	if conns[connected] < 1000 {
		t.Error(conns)
	}
}
