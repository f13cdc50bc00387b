package world

import (
	"slices"

	"gemel/api"
	"gemel/node"
)

// acting is what an act does.
type acting = func(w *World, a api.Act) api.Errno

// acts is what each kind of act does.
func acts() map[api.ActKind]acting {
	return map[api.ActKind]acting{
		api.ActCommand:  (*World).command,
		api.ActCarry:    (*World).carry,
		api.ActTick:     (*World).tick,
		api.ActAsk:      (*World).ask,
		api.ActOff:      (*World).off,
		api.ActOn:       (*World).on,
		api.ActFuse:     (*World).fuse,
		api.ActFail:     (*World).fail,
		api.ActBlank:    (*World).blank,
		api.ActCarryAll: (*World).carryAll,
	}
}

// mayDo tells whether an act names what there is.
func mayDo(a api.Act) bool {
	switch a.Kind {
	case api.ActCarry, api.ActCarryAll:
		return true
	case api.ActAsk:
		return isNode(a.Node) && a.Ask >= api.AskPromote && a.Ask <= api.AskVerify
	case api.ActFuse:
		return isNode(a.Node) && a.N >= 0
	}
	return isNode(a.Node)
}

// Do does an act. The clock counts it in any case.
func (w *World) Do(a api.Act) api.Errno {
	if w.none() {
		return api.ErrNil
	}
	a.Picks = slices.Clone(a.Picks)
	do, known := acts()[a.Kind]
	e := api.OK
	switch {
	case !known || !mayDo(a):
		e = api.ErrArg
	case len(w.net) >= api.MaxNet:
		e = api.ErrFull
	default:
		e = do(w, a)
	}
	w.log = append(w.log, a)
	return e
}

func (w *World) env() node.Env {
	return node.Env{Arbiter: w.arb, Draw: w.draw}
}

func (w *World) command(a api.Act) api.Errno {
	n := w.nodes[a.Node]
	if n == nil {
		return api.ErrState
	}
	c := a.Cmd
	c.Num = uint64(len(w.calls)) + 1
	w.open[a.Node]++
	w.calls = append(w.calls, api.Call{Num: c.Num, Node: a.Node, Cmd: c, From: w.Acts(), Gone: nobody})
	w.step(a.Node, a.Picks, func() api.Out { return n.Command(w.env(), c) })
	return api.OK
}

// deliver lets a datagram come to whom it goes to.
func (w *World) deliver(at int, picks []int) {
	if w.waits[at] {
		w.waits[at] = false
		w.waiting--
	}
	x := w.net[at]
	if n := w.nodes[x.To]; n != nil {
		w.step(x.To, picks, func() api.Out { return n.Take(w.env(), x.Bytes) })
	}
}

func (w *World) carry(a api.Act) api.Errno {
	n := len(w.net)
	if n == 0 {
		return api.ErrNone
	}
	w.deliver((a.N%n+n)%n, a.Picks)
	return api.OK
}

func (w *World) carryAll(a api.Act) api.Errno {
	for range api.MaxCarry {
		for w.first < len(w.net) && !w.waits[w.first] {
			w.first++
		}
		if w.first == len(w.net) {
			break
		}
		w.deliver(w.first, a.Picks)
	}
	return api.OK
}

func (w *World) tick(a api.Act) api.Errno {
	n := w.nodes[a.Node]
	if n == nil {
		return api.ErrState
	}
	w.step(a.Node, a.Picks, func() api.Out { return n.Tick(w.env()) })
	return api.OK
}

func (w *World) ask(a api.Act) api.Errno {
	n := w.nodes[a.Node]
	if n == nil {
		return api.ErrState
	}
	w.step(a.Node, a.Picks, func() api.Out { return n.Ask(w.env(), a.Ask) })
	return api.OK
}

func (w *World) off(a api.Act) api.Errno {
	if w.nodes[a.Node] == nil {
		return api.ErrState
	}
	w.losePower(a.Node, a.Picks)
	return api.OK
}

func (w *World) on(a api.Act) api.Errno {
	if w.nodes[a.Node] != nil {
		return api.ErrState
	}
	d := w.disks[a.Node]
	n, e := node.New(a.Node, w.stage.Setup, d)
	if e != api.OK {
		d.Crash(a.Picks)
		return e
	}
	w.nodes[a.Node] = n
	return api.OK
}

func (w *World) fuse(a api.Act) api.Errno { return w.disks[a.Node].Fuse(a.N) }

func (w *World) fail(a api.Act) api.Errno { return w.disks[a.Node].Fail() }

func (w *World) blank(a api.Act) api.Errno {
	if w.nodes[a.Node].Store() != nil {
		return api.ErrState
	}
	return w.disks[a.Node].Blank()
}
