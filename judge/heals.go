package judge

import (
	"slices"

	"gemel/api"
	"gemel/node"
	"gemel/store"
	"gemel/world"
)

// Rounds is a copy behind some rounds.
func Rounds(w *world.World, rounds int) *world.World {
	c := w.Copy()
	if c == nil {
		return nil
	}
	for range min(rounds, mostRounds) {
		c.Do(api.Act{Kind: api.ActCarryAll})
		for i := range 2 {
			if c.Node(i) != nil {
				c.Do(api.Act{Kind: api.ActTick, Node: i})
			}
		}
	}
	return c
}

// both tells whether it is so of both nodes.
func both(w *world.World, is func(n *node.Node) bool) bool {
	return is(w.Node(0)) && is(w.Node(1))
}

// stands tells whether a node has power and a store, and does not stand alone.
func stands(n *node.Node) bool { return n.Store() != nil && n.Conn() != api.StandAlone }

func isHeard(n *node.Node) bool { return n.Idle() <= mostIdle }

func isHealed(n *node.Node) bool {
	return n.Conn() == api.Connected && n.State() == api.UpToDate && n.Sync() == api.NoSync && n.Store().Map().Len() == 0 && n.Under() == 0
}

func blocksOf(s *store.Store) []api.Block {
	var out []api.Block
	for i := range s.Blocks() {
		b, _ := s.Read(i)
		out = append(out, b)
	}
	return out
}

func (m *matter) heals() bool {
	if !m.guarded() || !both(m.w, stands) || !both(m.w, isHeard) {
		return true
	}
	c := Rounds(m.w, 3*m.setup.Blocks+40)
	if !both(c, stands) {
		return true
	}
	_, held := c.Arbiter().Holder()
	return both(c, isHealed) && !held && slices.Equal(blocksOf(c.Node(0).Store()), blocksOf(c.Node(1).Store()))
}

// Heals tells whether both come to be the same.
func Heals(w *world.World) bool { return none(w) || matterOf(w).heals() }
