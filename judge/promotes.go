package judge

import (
	"slices"

	"gemel/api"
	"gemel/command"
	"gemel/world"
)

// asked is the act at which a node was last asked to be promoted, ahead of one that was seen.
func (m *matter) asked(x api.Seen) int {
	busy := map[int]struct{}{}
	for _, y := range m.seen {
		if y.Node == x.Node && slices.Contains(y.Done, api.Done{What: api.AskPromote, Code: api.ErrBusy}) {
			busy[y.Act] = struct{}{}
		}
	}
	for at := min(x.Act, len(m.log)-1); at >= 0; at-- {
		a := m.log[at]
		_, wasBusy := busy[at]
		if a.Kind == api.ActAsk && a.Ask == api.AskPromote && a.Node == x.Node && !wasBusy {
			return at
		}
	}
	return 0
}

// reignedAt tells whether a node was Primary as an act began. (A loss of power by an act of its own is no step, and not seen.)
func (m *matter) reignedAt(node, act int) bool {
	last := -1
	for i, y := range m.seen {
		if y.Act < act {
			last = i
		}
	}
	if last < 0 || m.seen[last].After.Role[node] != api.Primary {
		return false
	}
	return !slices.ContainsFunc(m.log[m.seen[last].Act:act], func(a api.Act) bool { return a.Kind == api.ActOff && a.Node == node })
}

// reigned tells whether the other node was Primary at some moment since a node was asked, up to what is the i-th that was seen.
func (m *matter) reigned(i int) bool {
	x := m.seen[i]
	other, since := 1-x.Node, m.asked(x)
	if m.reignedAt(other, since) {
		return true
	}
	return slices.ContainsFunc(m.seen[:i+1], func(y api.Seen) bool {
		return y.Act >= since && (y.Before.Role[other] == api.Primary || y.After.Role[other] == api.Primary)
	})
}

// promoted tells whether what an AskPromote was told is right.
func (m *matter) promoted(i int, code api.Errno) bool {
	x := m.seen[i]
	n, other := x.Node, 1-x.Node
	switch code {
	case api.OK:
		reigns := x.After.Role[n] == api.Primary && x.After.State[n] == api.UpToDate
		agreed := x.After.Conn[n] == api.Connected && x.After.Role[other] != api.Primary
		return reigns && (x.After.Grant == n || agreed)
	case api.ErrHeld:
		return x.Before.Grant == other
	case api.ErrPeer:
		return n == 1 || m.reigned(i)
	case api.ErrStale:
		return x.Before.State[n] != api.UpToDate || x.After.State[n] != api.UpToDate
	case api.ErrState:
		return x.Before.Role[n] == api.Primary || x.After.Conn[n] != api.Connected
	}
	return true
}

func (m *matter) promotes() bool {
	if !m.fenced() {
		return true
	}
	for i, x := range m.seen {
		for _, d := range x.Done {
			if d.What == api.AskPromote && !m.promoted(i, d.Code) {
				return false
			}
		}
	}
	return true
}

// Promotes tells whether who should be promoted is, and nobody else.
func Promotes(w *world.World) bool { return none(w) || matterOf(w).promotes() }

// made tells whether the first ones of some writes, so many at least, make an image of another one.
func made(from, image []api.Block, l []api.Entry, least int) bool {
	is := slices.Clone(from)
	for n := 0; ; n++ {
		if n >= least && slices.Equal(is, image) {
			return true
		}
		if n == len(l) {
			return false
		}
		is[l[n].Block] = l[n].Data
	}
}

func (m *matter) firsts() bool {
	if !m.guarded() || m.setup.Protocol == api.ProtocolA {
		return true
	}
	done := map[uint64]int{}
	for _, c := range m.w.History() {
		if c.Done && command.Writes(c.Cmd) {
			done[c.Num] = c.To
		}
	}
	image := make([]api.Block, m.setup.Blocks)
	var writes []api.Entry
	for _, x := range m.seen {
		if len(x.Image) > 0 {
			least := 0
			for i, y := range writes {
				if to, answered := done[y.Num]; answered && to <= x.Act {
					least = i + 1
				}
			}
			if !made(image, x.Image, writes, least) {
				return false
			}
			image, writes = x.Image, nil
		}
		writes = append(writes, x.Made...)
	}
	return true
}

// Firsts tells whether what is there behind a failover is what the first writes make.
func Firsts(w *world.World) bool { return none(w) || matterOf(w).firsts() }
