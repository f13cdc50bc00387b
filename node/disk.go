package node

import (
	"gemel/api"
	"gemel/store"
	"gemel/uuid"
)

// attach attaches the disk, and begins one that has nothing.
func (n *Node) attach() api.Errno {
	s, e := store.Attach(n.disk, n.setup.Blocks, n.setup.Hot)
	if e == api.ErrNone {
		if e = store.Format(n.disk, n.setup.Blocks, api.Line{}, api.Inconsistent); e == api.OK {
			s, e = store.Attach(n.disk, n.setup.Blocks, n.setup.Hot)
		}
	}
	if e == api.OK {
		n.store, n.table = s, s.Table()
	}
	return e
}

// did tells whether the store did what it was asked; a node whose disk failed detaches.
func (n *Node) did(e api.Errno) bool {
	if e == api.ErrIO || e == api.ErrDead {
		n.detach()
	}
	return e == api.OK
}

// detach lets the node be without its disk.
func (n *Node) detach() {
	n.store, n.verifying = nil, false
	n.endSync()
	if n.role == api.Primary && !(n.conn == api.Connected && n.peer.state == api.UpToDate) {
		n.drop()
		return
	}
	n.alone = false
	if n.role == api.Primary {
		n.release()
	}
	n.sayState()
}

// drop lets a Primary be none any more; nothing of what is under way is answered.
func (n *Node) drop() {
	n.role, n.alone = api.Secondary, false
	n.order.Clear()
	clear(n.under)
	n.behind.Clear()
	n.sayState()
}

// release gives the grant back, if it is this node's.
func (n *Node) release() { n.env.Arbiter.Release(n.id) }

// grant takes the arbiter's grant, where that is asked; a fence takes the other one's power.
func (n *Node) grant(fence bool) bool {
	if n.setup.Fencing == api.DontCare {
		return true
	}
	if _, e := n.env.Arbiter.Take(n.id); e != api.OK {
		return false
	}
	if fence && n.setup.Fencing == api.Stonith {
		n.out.Fence = true
	}
	return true
}

// begin begins a generation, unless one began since the node was last as the other one.
func (n *Node) begin() bool {
	x := n.store.Super()
	if x.Line.Base == 0 {
		draw := n.env.Draw()
		n.out.Born = append(n.out.Born, api.Born{Parent: x.Line.Current, Child: draw})
		x.Line, _ = uuid.Alone(x.Line, draw)
	}
	x.Crashed = true
	return n.did(n.store.Set(x))
}

// goAlone lets a node go on alone that has a store, if it may.
func (n *Node) goAlone() {
	if n.alone || n.store == nil {
		return
	}
	if n.conn == api.Shaking {
		n.reconnect()
	}
	if n.grant(true) && n.begin() {
		n.isAlone()
	}
}

// isAlone is what comes once nobody else is to have the writes.
func (n *Node) isAlone() {
	n.alone = true
	for _, x := range n.behind.Clear() {
		n.store.Map().Mark(x.Block)
	}
	for _, num := range n.started() {
		n.answer(num, api.Answer{Out: n.under[num].out})
	}
}

// keepBlocks is what a Secondary does for a Primary that is without its disk: what is written from now on that disk has not.
func (n *Node) keepBlocks() {
	kept := n.grant(false) && n.begin()
	if kept {
		n.store.Map().Fill()
		kept = n.did(n.store.SaveMap())
	}
	if !kept {
		n.reconnect()
	}
}
