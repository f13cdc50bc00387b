package node

import (
	"gemel/api"
	"gemel/message"
	"gemel/reserve"
	"gemel/resync"
	"gemel/shake"
)

// happened is what a link tells.
func (n *Node) happened(event api.LinkEvent) {
	switch event {
	case api.EventUp:
		n.conn = api.Shaking
		n.said = n.shake()
		n.say(n.said)
	case api.EventLost:
		n.lost()
	case api.EventTimeout:
		n.lost()
		if n.role == api.Primary {
			n.goAlone()
		}
	}
}

// shake is what the node says of itself.
func (n *Node) shake() api.Message {
	holder, held := n.env.Arbiter.Holder()
	m := api.Message{Kind: api.MsgShake, Node: n.id, Blocks: n.setup.Blocks, Role: n.role, State: n.State(), Yes: held && holder == n.id}
	if n.store != nil {
		x := n.store.Super()
		m.Line, m.Crashed, m.Set = x.Line, x.Crashed, n.store.Map().Set()
		m.Table, _ = reserve.Bytes(n.table)
	}
	return m
}

func (n *Node) endSync() {
	n.sync, n.target, n.synced = api.NoSync, nil, false
}

// lost is what is left where the other one can't be reached.
func (n *Node) lost() {
	n.conn, n.peer, n.mirrored, n.queue = api.Connecting, peer{}, false, nil
	n.endSync()
	n.verifying = false
	if n.promoting {
		n.promoting = false
		n.told(api.AskPromote, api.ErrState)
	}
	if n.role == api.Primary && n.store == nil {
		n.drop()
	}
}

// reconnect closes the link: a new one is opened, and both shake anew.
func (n *Node) reconnect() {
	n.link.Close()
	n.lost()
}

// anew lets the other one not go by a shake that does not hold any more.
func (n *Node) anew() {
	if n.conn == api.Shaking {
		n.reconnect()
	}
}

// standAlone closes the link for good.
func (n *Node) standAlone() {
	n.reconnect()
	n.conn = api.StandAlone
	if n.role == api.Primary {
		n.goAlone()
	}
}

// counts tells whether a Primary waits for the other one.
func (n *Node) counts() bool {
	return n.role == api.Primary && n.conn != api.Connected && !n.alone
}

// meet is the other one's shake.
func (n *Node) meet(other api.Message) {
	plan, e := shake.Meet(n.setup.Policy, n.said, other)
	n.out.Met = append(n.out.Met, api.Met{Own: message.Copy(n.said), Other: message.Copy(other), Plan: plan, Code: e})
	if e != api.OK || plan.Refuse {
		n.standAlone()
		return
	}
	n.conn, n.peer = api.Connected, peer{other.Role, other.State}
	n.mirrored = other.State != api.Diskless
	if plan.Table != n.id {
		n.takeTable(other.Table)
	}
	switch {
	case plan.Source >= 0:
		n.beginSync(plan)
	case n.role == api.Secondary && other.State != api.Diskless:
		n.recovered()
	}
	if n.role == api.Primary {
		n.goOn()
	}
	n.giveBack()
}

// takeTable takes the other one's table, if these are a table's bytes: is it saved?
func (n *Node) takeTable(b []byte) bool {
	t, e := reserve.OfBytes(b)
	if e != api.OK {
		return false
	}
	n.table = t
	return n.store == nil || n.did(n.store.SaveTable(t))
}

// beginSync marks what is to go, and lets it go.
func (n *Node) beginSync(plan api.Plan) {
	if n.store == nil {
		return
	}
	if plan.Full {
		n.store.Map().Fill()
	} else {
		n.store.Map().Join(plan.Set)
	}
	if !n.did(n.store.SaveMap()) {
		return
	}
	if plan.Source == n.id {
		n.sync = api.SyncSource
		return
	}
	x := n.store.Super()
	x.State = api.Inconsistent
	if n.did(n.store.Set(x)) {
		n.sync = api.SyncTarget
		n.target, _ = resync.New(n.store, n.setup.Window, n.setup.Digests)
	}
}

// recovered lets a Secondary not be Crashed any more, whose blocks are the other one's.
func (n *Node) recovered() {
	if n.store == nil || !n.store.Super().Crashed {
		return
	}
	x := n.store.Super()
	x.Crashed = false
	n.did(n.store.Set(x))
}

// goOn is what a Primary does that is Connected.
func (n *Node) goOn() {
	if !n.mirrored {
		n.goAlone()
		return
	}
	n.alone = false
	for x := range n.behind.All() {
		n.say(api.Message{Kind: api.MsgWrite, Num: x.Num, Block: x.Block, Data: x.Data})
	}
	for _, num := range n.started() {
		n.sayAgain(num, n.under[num])
	}
}

// giveBack gives the grant back, where nobody needs it.
func (n *Node) giveBack() {
	if n.conn == api.Connected && n.sync == api.NoSync && n.State() == api.UpToDate && n.peer.state == api.UpToDate {
		n.release()
	}
}
