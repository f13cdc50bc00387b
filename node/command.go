package node

import (
	"slices"

	"gemel/api"
	"gemel/command"
	"gemel/reserve"
)

const ofAll = -1

// placeOf is the block of which a command is, and whether it writes.
func placeOf(c api.Command) (int, bool) {
	switch c.Kind {
	case api.CmdFlush, api.CmdPROut:
		return ofAll, true
	case api.CmdPRIn:
		return ofAll, false
	}
	return c.Block, command.Writes(c)
}

// come is a command that comes.
func (n *Node) come(c api.Command) {
	e := api.OK
	switch {
	case !command.May(c, api.MaxBlocks):
		e = api.ErrArg
	case c.Block >= n.setup.Blocks:
		e = api.ErrRange
	case n.role != api.Primary:
		e = api.ErrState
	}
	if e != api.OK {
		n.out.Answers = append(n.out.Answers, api.Answer{Num: c.Num, Kind: c.Kind, Code: e})
		return
	}
	n.num++
	n.under[n.num] = &request{cmd: c}
	block, writes := placeOf(c)
	n.order.Come(n.num, block, writes)
}

// onTheWay are the commands on their way that were started, or were not.
func (n *Node) onTheWay(started bool) []uint64 {
	var out []uint64
	for _, num := range n.order.Way() {
		if n.under[num].started == started {
			out = append(out, num)
		}
	}
	return out
}

func (n *Node) started() []uint64 { return n.onTheWay(true) }

// ready tells whether what is on its way may be started.
func (n *Node) ready() bool {
	if n.role != api.Primary || n.conn == api.Shaking {
		return false
	}
	if n.alone {
		return n.store != nil
	}
	return n.conn == api.Connected && n.mirrored && (n.store != nil || n.peer.state == api.UpToDate)
}

// startAll starts what is on its way, and then what comes on its way by that.
func (n *Node) startAll() {
	for n.ready() {
		l := n.onTheWay(false)
		if len(l) == 0 {
			return
		}
		for _, num := range l {
			if !n.ready() {
				return
			}
			n.start(num, n.under[num])
		}
	}
}

// answer answers a command under way.
func (n *Node) answer(num uint64, a api.Answer) {
	c := n.under[num].cmd
	a.Num, a.Kind, a.Out = c.Num, c.Kind, slices.Clone(a.Out)
	n.out.Answers = append(n.out.Answers, a)
	delete(n.under, num)
	n.order.Done(num)
}

func (n *Node) start(num uint64, r *request) {
	r.started = true
	if !command.Allowed(r.cmd, n.table) {
		n.answer(num, api.Answer{Code: api.ErrConflict})
		return
	}
	switch r.cmd.Kind {
	case api.CmdRead:
		n.startRead(num, r)
	case api.CmdWrite, api.CmdTrim, api.CmdZeroes:
		n.startWrite(num, r)
	case api.CmdFlush:
		n.startFlush(num, r)
	case api.CmdPRIn:
		n.answer(num, api.Answer{Reserve: n.table})
	case api.CmdPROut:
		n.startAction(num, r)
	}
}

func (n *Node) startRead(num uint64, r *request) {
	if n.store != nil {
		b, e := n.store.Read(r.cmd.Block)
		if n.did(e) {
			n.answer(num, api.Answer{Data: b})
			return
		}
	}
	if n.role == api.Primary {
		n.sayAgain(num, r)
	}
}

func (n *Node) startWrite(num uint64, r *request) {
	block, data := r.cmd.Block, command.Data(r.cmd)
	n.out.Made = append(n.out.Made, api.Entry{Num: r.cmd.Num, Block: block, Data: data})
	if n.store != nil {
		n.did(n.store.Write(block, data, true))
	}
	switch {
	case n.role != api.Primary:
	case n.mirrored:
		n.behind.Add(num, block, data)
		n.say(api.Message{Kind: api.MsgWrite, Num: num, Block: block, Data: data})
		n.answerWrites()
	default:
		n.store.Map().Mark(block)
		n.answer(num, api.Answer{})
	}
}

func (n *Node) startFlush(num uint64, r *request) {
	if !n.mirrored {
		n.answer(num, api.Answer{})
		return
	}
	r.epoch = n.behind.Barrier()
	n.sayAgain(num, r)
}

func (n *Node) startAction(num uint64, r *request) {
	a := r.cmd.Action
	a.Who = r.cmd.Who
	was := n.table
	then, out, e := reserve.Do(was, a)
	if e != api.OK {
		n.answer(num, api.Answer{Code: e})
		return
	}
	n.table, r.out = then, out
	if n.store != nil {
		n.did(n.store.SaveTable(then))
	}
	switch {
	case n.role != api.Primary:
		n.table = was
	case n.mirrored:
		n.sayAgain(num, r)
	default:
		n.answer(num, api.Answer{Out: out})
	}
}

// sayAgain tells the other one of a command that was started, and waits for it. (Writes are told by what is behind.)
func (n *Node) sayAgain(num uint64, r *request) {
	switch r.cmd.Kind {
	case api.CmdPROut:
		b, _ := reserve.Bytes(n.table)
		n.say(api.Message{Kind: api.MsgTable, Num: num, Table: b})
	case api.CmdFlush:
		n.say(api.Message{Kind: api.MsgBarrier, Num: r.epoch})
	case api.CmdRead:
		n.say(api.Message{Kind: api.MsgRead, Num: num, Block: r.cmd.Block})
	}
}

// answerWrites answers, by ProtocolA, the writes up to which not too many are on their way.
func (n *Node) answerWrites() {
	if n.setup.Protocol != api.ProtocolA {
		return
	}
	way := 0
	for x := range n.behind.All() {
		if !x.Got {
			way++
		}
		if way > n.setup.Cap {
			return
		}
		n.answerWrite(x.Num)
	}
}

// answerWrite answers a write, if it was not.
func (n *Node) answerWrite(num uint64) {
	if _, there := n.under[num]; there {
		n.answer(num, api.Answer{})
	}
}
