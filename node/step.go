package node

import (
	"gemel/api"
	"gemel/message"
)

// mayAsk tells whether a step has whom to ask. (An arbiter that is one tells of a node that there is not.)
func mayAsk(v Env) bool {
	_, e := v.Arbiter.Release(-1)
	return v.Draw != nil && e != api.ErrNil
}

// step does something, and what follows from it; it is what all calls are made of.
func (n *Node) step(v Env, do func()) api.Out {
	if n.none() || !mayAsk(v) {
		return api.Out{}
	}
	n.env, n.out = v, &api.Out{}
	do()
	n.startAll()
	n.askAsTarget()
	if !n.counts() {
		n.counted = 0
	}
	n.flush()
	n.out.Net = n.link.Out()
	out := *n.out
	n.env, n.out = Env{}, nil
	return out
}

// Take is a datagram that comes.
func (n *Node) Take(v Env, b []byte) api.Out {
	return n.step(v, func() {
		payloads, event := n.link.Take(b)
		n.happened(event)
		for _, x := range payloads {
			if m, e := message.Of(x); e == api.OK {
				n.hear(m)
			}
		}
	})
}

// Tick is its timer.
func (n *Node) Tick(v Env) api.Out {
	return n.step(v, func() {
		n.happened(n.link.Tick())
		if n.counts() {
			n.counted++
			if n.counted >= api.MaxIdle {
				n.goAlone()
			}
		}
		if n.conn == api.Connecting && n.link.State() == api.LinkDown {
			// A draw of 0 is refused: the next tick draws again.
			n.link.Open(v.Draw())
		}
	})
}

// Command is what an initiator asks.
func (n *Node) Command(v Env, c api.Command) api.Out {
	return n.step(v, func() { n.come(c) })
}

// Ask is what is asked of it.
func (n *Node) Ask(v Env, a api.Ask) api.Out {
	return n.step(v, func() {
		e := api.ErrArg
		if do, known := asks()[a]; known {
			e = do(n)
		}
		if e == api.ErrDead {
			e = api.ErrIO
		}
		if e != later {
			n.told(a, e)
		}
	})
}

func (n *Node) told(a api.Ask, e api.Errno) {
	n.out.Done = append(n.out.Done, api.Done{What: a, Code: e})
}

// say lets a message go to the other one.
func (n *Node) say(m api.Message) {
	if b, e := message.Bytes(m); e == api.OK {
		n.queue = append(n.queue, b)
	}
}

// sayState tells the other one what this node is, if it is Connected.
func (n *Node) sayState() {
	if n.conn == api.Connected {
		n.say(api.Message{Kind: api.MsgState, Role: n.role, State: n.State()})
	}
}

// flush hands the link what it has room for.
func (n *Node) flush() {
	for len(n.queue) > 0 && n.link.Send(n.queue[0]) == api.OK {
		n.queue = n.queue[1:]
	}
}
