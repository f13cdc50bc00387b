package node

import (
	"slices"

	"gemel/api"
	"gemel/resync"
	"gemel/uuid"
)

// hear is a message of the other one.
func (n *Node) hear(m api.Message) {
	if m.Kind == api.MsgShake {
		if n.conn == api.Shaking {
			n.meet(m)
		}
		return
	}
	if n.conn != api.Connected {
		return
	}
	switch m.Kind {
	case api.MsgWrite, api.MsgBarrier, api.MsgTable, api.MsgRead:
		n.hearAsked(m)
	case api.MsgGot, api.MsgWritten, api.MsgBarred, api.MsgTabled, api.MsgData:
		n.hearAnswered(m)
	case api.MsgAsk, api.MsgSync, api.MsgSynced, api.MsgEnd:
		n.hearSync(m)
	case api.MsgVerify, api.MsgVerified:
		n.hearVerify(m)
	case api.MsgPromote, api.MsgPromoted, api.MsgState:
		n.hearRole(m)
	}
}

// hearAsked is what a Primary asks for its commands.
func (n *Node) hearAsked(m api.Message) {
	switch m.Kind {
	case api.MsgWrite:
		if n.store == nil || !n.did(n.store.Write(m.Block, m.Data, false)) {
			return
		}
		n.target.Wrote(m.Block)
		n.say(api.Message{Kind: api.MsgGot, Num: m.Num})
		n.say(api.Message{Kind: api.MsgWritten, Num: m.Num})
	case api.MsgBarrier:
		n.say(api.Message{Kind: api.MsgBarred, Num: m.Num})
	case api.MsgTable:
		if n.takeTable(m.Table) {
			n.say(api.Message{Kind: api.MsgTabled, Num: m.Num})
		}
	case api.MsgRead:
		data := api.Message{Kind: api.MsgData, Num: m.Num}
		if n.store != nil {
			b, e := n.store.Read(m.Block)
			data.Yes, data.Data = n.did(e), b
		}
		n.say(data)
	}
}

// waitsFor is the command that was started, of a kind, of which it is so.
func (n *Node) waitsFor(kind api.CmdKind, is func(num uint64, r *request) bool) (uint64, bool) {
	l := n.started()
	i := slices.IndexFunc(l, func(num uint64) bool {
		r := n.under[num]
		return r.cmd.Kind == kind && is(num, r)
	})
	if i < 0 {
		return 0, false
	}
	return l[i], true
}

// hearAnswered is what the other one tells of what a Primary asked.
func (n *Node) hearAnswered(m api.Message) {
	isNum := func(num uint64, _ *request) bool { return num == m.Num }
	switch m.Kind {
	case api.MsgGot:
		if n.behind.Got(m.Num) == api.OK && n.setup.Protocol == api.ProtocolB {
			n.answerWrite(m.Num)
		}
		n.answerWrites()
	case api.MsgWritten:
		if _, e := n.behind.Written(m.Num); e == api.OK {
			n.answerWrite(m.Num)
		}
		n.answerWrites()
	case api.MsgBarred:
		isEpoch := func(_ uint64, r *request) bool { return r.epoch == m.Num }
		if num, ok := n.waitsFor(api.CmdFlush, isEpoch); ok {
			n.answer(num, api.Answer{})
		}
	case api.MsgTabled:
		if num, ok := n.waitsFor(api.CmdPROut, isNum); ok {
			n.answer(num, api.Answer{Out: n.under[num].out})
		}
	case api.MsgData:
		if num, ok := n.waitsFor(api.CmdRead, isNum); ok {
			a := api.Answer{Code: api.ErrIO}
			if m.Yes {
				a = api.Answer{Data: m.Data}
			}
			n.answer(num, a)
		}
	}
}

// hearSync is what a source and a target say.
func (n *Node) hearSync(m api.Message) {
	switch {
	case m.Kind == api.MsgAsk && n.sync == api.SyncSource:
		x, e := resync.Answer(n.store, m)
		if n.did(e) {
			n.say(x)
		}
	case m.Kind == api.MsgSync && n.sync == api.SyncTarget:
		_, e := n.target.Take(m)
		if n.did(e) && !m.Yes {
			n.out.Wrote = append(n.out.Wrote, m.Block)
		}
	case m.Kind == api.MsgSynced && n.sync == api.SyncSource:
		n.endSource()
	case m.Kind == api.MsgEnd && n.sync == api.SyncTarget:
		n.endTarget(m.Line)
	}
}

// endSource is a source's end of a resync.
func (n *Node) endSource() {
	x := n.store.Super()
	x.Line, x.Crashed = uuid.Ended(x.Line), n.role == api.Primary
	if !n.did(n.store.Set(x)) {
		return
	}
	marks := n.store.Map()
	marks.Wipe(slices.Collect(marks.All())...)
	if !n.did(n.store.SaveMap()) {
		return
	}
	n.endSync()
	n.say(api.Message{Kind: api.MsgEnd, Line: x.Line})
}

// endTarget is a target's end of a resync.
func (n *Node) endTarget(l api.Line) {
	n.endSync()
	if !n.did(n.store.SaveMap()) {
		return
	}
	x := n.store.Super()
	x.State, x.Crashed, x.Line = api.UpToDate, false, l
	if n.did(n.store.Set(x)) {
		n.sayState()
	}
	n.giveBack()
}

// askAsTarget asks for what the source is to send, and tells it when all came.
func (n *Node) askAsTarget() {
	if n.sync != api.SyncTarget {
		return
	}
	l, e := n.target.Asks()
	if !n.did(e) {
		return
	}
	for _, m := range l {
		n.say(m)
	}
	if n.target.Done() && !n.synced {
		n.synced = true
		n.say(api.Message{Kind: api.MsgSynced})
	}
}

// hearVerify is what comes of a verify.
func (n *Node) hearVerify(m api.Message) {
	if m.Kind == api.MsgVerify {
		if x, e := resync.Same(n.store, m); n.did(e) {
			n.say(x)
		}
		return
	}
	if !n.verifying || m.Block >= n.setup.Blocks {
		return
	}
	if !m.Yes {
		n.store.Map().Mark(m.Block)
	}
	n.verified++
	if n.verified < n.setup.Blocks {
		return
	}
	if !n.did(n.store.SaveMap()) {
		return
	}
	n.verifying = false
	n.told(api.AskVerify, api.OK)
	if n.store.Map().Len() > 0 {
		n.reconnect()
	}
}

// hearRole is what the other one is, or is to be.
func (n *Node) hearRole(m api.Message) {
	switch {
	case m.Kind == api.MsgPromote:
		n.hearPromote()
	case m.Kind == api.MsgPromoted && n.promoting:
		n.hearPromoted(m.Yes)
	case m.Kind == api.MsgState:
		n.hearState(m.Role, m.State)
	}
}

func (n *Node) hearPromote() {
	yes := n.role == api.Secondary && !(n.id == 0 && n.promoting)
	if yes {
		if n.promoting {
			n.promoting = false
			n.told(api.AskPromote, api.ErrPeer)
		}
		n.release()
		n.peer.role = api.Primary
	}
	n.say(api.Message{Kind: api.MsgPromoted, Yes: yes})
}

func (n *Node) hearPromoted(yes bool) {
	n.promoting = false
	if !yes {
		n.told(api.AskPromote, api.ErrPeer)
		return
	}
	e := api.ErrStale
	if n.State() == api.UpToDate && n.crash() {
		n.role, e = api.Primary, api.OK
		if !n.mirrored {
			n.goAlone()
		}
	}
	n.sayState()
	n.told(api.AskPromote, e)
}

// crash lets the node be Crashed, as a Primary is until it leaves in order.
func (n *Node) crash() bool {
	x := n.store.Super()
	x.Crashed = true
	return n.did(n.store.Set(x))
}

func (n *Node) hearState(role api.Role, state api.State) {
	n.peer = peer{role, state}
	if state == api.Diskless {
		n.mirrored = false
		n.endSync()
		switch {
		case n.role == api.Primary && n.store == nil:
			n.drop()
		case n.role == api.Primary:
			n.goAlone()
		case n.store != nil && role == api.Primary:
			n.keepBlocks()
		}
	}
	n.giveBack()
}
