package node

import (
	"gemel/api"
	"gemel/resync"
)

// later stands for what is told by another step.
const later api.Errno = -1

// asks is what may be asked, and what each does.
func asks() map[api.Ask]func(n *Node) api.Errno {
	return map[api.Ask]func(n *Node) api.Errno{
		api.AskPromote:    (*Node).askPromote,
		api.AskForce:      (*Node).askForce,
		api.AskDemote:     (*Node).askDemote,
		api.AskConnect:    (*Node).askConnect,
		api.AskDisconnect: (*Node).askDisconnect,
		api.AskAttach:     (*Node).askAttach,
		api.AskDetach:     (*Node).askDetach,
		api.AskOutdate:    (*Node).askOutdate,
		api.AskVerify:     (*Node).askVerify,
	}
}

// reign lets a node be Primary that nobody else was asked about.
func (n *Node) reign() api.Errno {
	if !n.begin() {
		return api.ErrIO
	}
	n.role = api.Primary
	n.isAlone()
	return api.OK
}

func (n *Node) askPromote() api.Errno {
	switch {
	case n.role == api.Primary:
		return api.ErrState
	case n.State() != api.UpToDate:
		return api.ErrStale
	case n.promoting:
		return api.ErrBusy
	case n.conn == api.Connected:
		n.promoting = true
		n.say(api.Message{Kind: api.MsgPromote})
		return later
	case !n.grant(true):
		return api.ErrHeld
	}
	n.anew()
	return n.reign()
}

func (n *Node) askForce() api.Errno {
	switch {
	case n.role == api.Primary:
		return api.ErrState
	case n.store == nil:
		return api.ErrStale
	case n.conn == api.Connected && n.peer.role == api.Primary:
		return api.ErrPeer
	}
	n.standAlone()
	x := n.store.Super()
	x.State = api.UpToDate
	if !n.did(n.store.Set(x)) {
		return api.ErrIO
	}
	return n.reign()
}

func (n *Node) askDemote() api.Errno {
	switch {
	case n.role != api.Primary:
		return api.ErrState
	case n.order.Len() > 0 || n.behind.Len() > 0:
		return api.ErrBusy
	}
	n.anew()
	n.role, n.alone = api.Secondary, false
	if n.store != nil {
		n.did(n.store.Leave())
	}
	n.sayState()
	return api.OK
}

func (n *Node) askConnect() api.Errno {
	if n.conn != api.StandAlone {
		return api.ErrState
	}
	n.conn = api.Connecting
	return api.OK
}

func (n *Node) askDisconnect() api.Errno {
	if n.conn == api.StandAlone {
		return api.ErrState
	}
	n.standAlone()
	return api.OK
}

func (n *Node) askAttach() api.Errno {
	if n.store != nil || n.role == api.Primary {
		return api.ErrState
	}
	if e := n.attach(); e != api.OK {
		return e
	}
	if n.conn == api.Connected || n.conn == api.Shaking {
		n.reconnect()
	}
	return api.OK
}

func (n *Node) askDetach() api.Errno {
	switch {
	case n.store == nil:
		return api.ErrState
	case n.role == api.Primary && !(n.conn == api.Connected && n.peer.state == api.UpToDate && n.sync == api.NoSync):
		return api.ErrBusy
	}
	n.anew()
	if n.role == api.Secondary {
		// It detaches in any case: what Leave tells changes nothing.
		n.store.Leave()
	}
	n.detach()
	return api.OK
}

func (n *Node) askOutdate() api.Errno {
	switch {
	case n.role == api.Primary || n.conn == api.Connected:
		return api.ErrState
	case n.State() != api.UpToDate:
		return api.ErrStale
	}
	n.anew()
	x := n.store.Super()
	x.State = api.Outdated
	if !n.did(n.store.Set(x)) {
		return api.ErrIO
	}
	return api.OK
}

func (n *Node) askVerify() api.Errno {
	switch {
	case n.conn != api.Connected || n.sync != api.NoSync || n.store == nil || n.peer.state == api.Diskless:
		return api.ErrState
	case n.verifying:
		return api.ErrBusy
	}
	var l []api.Message
	for i := range n.setup.Blocks {
		b, e := n.store.Read(i)
		if !n.did(e) {
			return api.ErrIO
		}
		l = append(l, api.Message{Kind: api.MsgVerify, Block: i, Digest: resync.Digest(b)})
	}
	n.verifying, n.verified = true, 0
	for _, m := range l {
		n.say(m)
	}
	return later
}
