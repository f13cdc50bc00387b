package judge_test

import (
	"math/rand"
	"reflect"
	"slices"
	"testing"

	"gemel/api"
	"gemel/ghost"
	"gemel/judge"
	"gemel/linear"
	"gemel/world"
)

func of(x byte) api.Block { return api.Block{x} }

func stage(draws ...uint64) api.Stage {
	return api.Stage{Setup: api.Setup{Blocks: 8, Hot: 2, Cap: 2, Window: 2, Digests: true, Protocol: api.ProtocolC, Fencing: api.Stonith, Policy: api.Policy{Zero: 1, One: 1, Two: 1}}, Draws: draws}
}

var all = api.Act{Kind: api.ActCarryAll}

func tick(i int) api.Act { return api.Act{Kind: api.ActTick, Node: i} }

func ask(i int, a api.Ask) api.Act { return api.Act{Kind: api.ActAsk, Node: i, Ask: a} }

func on(i int) api.Act { return api.Act{Kind: api.ActOn, Node: i} }

func off(i int) api.Act { return api.Act{Kind: api.ActOff, Node: i} }

func fuse(i, n int) api.Act { return api.Act{Kind: api.ActFuse, Node: i, N: n} }

func write(i, block int, x byte) api.Act {
	return api.Act{Kind: api.ActCommand, Node: i, Cmd: api.Command{Kind: api.CmdWrite, Block: block, Data: of(x)}}
}

func run(t *testing.T, s api.Stage, l ...api.Act) *world.World {
	t.Helper()
	w, _, e := world.Run(s, l...)
	if e != api.OK {
		t.Fatal(e)
	}
	return w
}

func times(n int, l ...api.Act) []api.Act {
	var out []api.Act
	for range n {
		out = append(out, l...)
	}
	return out
}

var reign = []api.Act{tick(0), tick(1), all, ask(0, api.AskPromote), all}

var right = api.Verdicts{Linear: true, One: true, Promotes: true, Firsts: true, Lines: true, Heals: true}

func judged(t *testing.T, at int, w *world.World) {
	t.Helper()
	each := api.Verdicts{Linear: judge.Linear(w), One: judge.One(w), Promotes: judge.Promotes(w), Firsts: judge.Firsts(w), Lines: judge.Lines(w), Heals: judge.Heals(w)}
	if v := judge.All(w); v != right || each != v {
		t.Error(at, v, each)
	}
}

// P24.1 to P24.6: of no world.
func TestNil(t *testing.T) {
	for i, w := range []*world.World{nil, {}} {
		judged(t, i, w)
		if judge.Rounds(w, 5) != nil || judge.Forced(w) {
			t.Error(i)
		}
	}
}

// P24.5: rounds are of a copy, and at most 200.
func TestRounds(t *testing.T) {
	w := run(t, stage(5), off(1))
	for _, x := range [][2]int{{-1, 1}, {0, 1}, {1, 3}, {3, 7}, {200, 401}, {201, 401}, {1 << 62, 401}} {
		c := judge.Rounds(w, x[0])
		if c.Acts() != x[1] || w.Acts() != 1 {
			t.Error(x, c.Acts())
		}
	}
	l := judge.Rounds(run(t, stage(5)), 2).Log()
	if !reflect.DeepEqual(l, []api.Act{all, tick(0), tick(1), all, tick(0), tick(1)}) {
		t.Error(l)
	}
}

// P24.1: whether something was forced, done or refused.
func TestForced(t *testing.T) {
	for i, x := range []struct {
		l    []api.Act
		want bool
	}{{nil, false}, {reign, false}, {[]api.Act{ask(0, api.AskForce)}, true}, {[]api.Act{off(0), ask(0, api.AskForce)}, true}, {[]api.Act{{Kind: api.ActAsk, Node: 7, Ask: api.AskForce}}, true}, {[]api.Act{{Kind: api.ActTick, Ask: api.AskForce}}, false}} {
		if judge.Forced(run(t, stage(5), x.l...)) != x.want {
			t.Error(i)
		}
	}
}

// P24.1: both are Primary where nothing fences them; that is not judged, nor what comes of it.
func TestNotFenced(t *testing.T) {
	for i, f := range []func(s *api.Stage) []api.Act{
		func(s *api.Stage) []api.Act {
			s.Setup.Fencing = api.DontCare
			return []api.Act{ask(0, api.AskPromote), ask(1, api.AskPromote)}
		},
		func(s *api.Stage) []api.Act { return []api.Act{ask(0, api.AskForce), ask(1, api.AskForce)} },
	} {
		s := stage(5)
		l := f(&s)
		w := run(t, s, append(l, write(0, 1, 7), write(1, 1, 8))...)
		if v := w.View(); v.Role != [2]api.Role{api.Primary, api.Primary} {
			t.Error(i, v)
		}
		judged(t, i, w)
	}
}

// P24.1: what is judged only of guarded worlds.
func TestNotGuarded(t *testing.T) {
	for i, a := range []api.Act{{Kind: api.ActFail}, {Kind: api.ActBlank}, ask(0, api.AskDetach), {Kind: api.ActFail, Node: 9}} {
		w := run(t, stage(5), append(slices.Clone(reign), a, write(0, 1, 7), tick(0), all, tick(1), all)...)
		judged(t, i, w)
	}
}

// P24.5: a world heals: who was without power, or behind, comes to be the same.
func TestHeals(t *testing.T) {
	for i, l := range [][]api.Act{
		nil, reign,
		append(slices.Clone(reign), off(1), write(0, 1, 7), write(0, 5, 8), on(1)),
		append(append(append(slices.Clone(reign), write(0, 2, 9), off(1)), times(9, tick(0))...), write(0, 1, 7), on(1), tick(0), tick(1)),
		append(append(append(slices.Clone(reign), write(0, 2, 9), all, off(0)), times(9, tick(1))...), ask(1, api.AskPromote), write(1, 3, 7), on(0), tick(0), tick(1)),
	} {
		w := run(t, stage(5), l...)
		judged(t, i, w)
		c := judge.Rounds(w, 64)
		for n := range 2 {
			x := c.Node(n)
			if x.Conn() != api.Connected || x.State() != api.UpToDate || x.Store().Map().Len() != 0 || x.Under() != 0 {
				t.Error(i, n, x.Conn(), x.State())
			}
		}
	}
}

// P24.2: what an AskPromote was told is looked at, in all its ways.
func TestPromotes(t *testing.T) {
	for i, l := range [][]api.Act{
		append(slices.Clone(reign), ask(0, api.AskPromote), ask(1, api.AskPromote), all),
		{tick(0), tick(1), all, ask(0, api.AskPromote), ask(0, api.AskPromote), ask(1, api.AskPromote), all},
		{ask(0, api.AskPromote), on(1), ask(1, api.AskPromote)},
		{ask(0, api.AskOutdate), ask(0, api.AskPromote)},
		append([]api.Act{tick(0), tick(1), all, ask(0, api.AskPromote)}, times(9, tick(0))...),
		{tick(0), tick(1), all, ask(1, api.AskPromote), all, ask(0, api.AskPromote), {Kind: api.ActCarry, N: -1}, off(1), all},
		{tick(0), tick(1), all, ask(1, api.AskPromote), all, ask(0, api.AskPromote), ask(0, api.AskPromote), ask(1, api.AskDemote), all},
	} {
		judged(t, i, run(t, stage(5), l...))
	}
}

// P24.3: behind a failover the first writes are there, with all that were answered.
func TestFirsts(t *testing.T) {
	for _, protocol := range []api.Protocol{api.ProtocolA, api.ProtocolB, api.ProtocolC} {
		for steps := range 12 {
			s := stage(5)
			s.Setup.Protocol = protocol
			l := append(slices.Clone(reign), fuse(0, steps))
			for n := range 6 {
				l = append(l, write(0, n%3, byte(10+n)))
				if n%2 == 0 {
					l = append(l, api.Act{Kind: api.ActCarry, N: -1})
				}
			}
			l = append(append(append(l, off(0)), times(9, tick(1))...), ask(1, api.AskPromote), write(1, 1, 99), on(0), tick(0), tick(1), all)
			w := run(t, s, l...)
			judged(t, steps, w)
			if v := w.View(); v.Role[1] != api.Primary {
				t.Error(steps, v)
			}
		}
	}
}

// script is one of many acts: guarded, fenced, or any.
func script(seed int64, n int) (api.Stage, []api.Act) {
	r := rand.New(rand.NewSource(seed))
	kind := r.Intn(4)
	s := stage()
	s.Setup.Blocks, s.Setup.Hot, s.Setup.Cap, s.Setup.Window = 1+r.Intn(12), 1+r.Intn(4), 1+r.Intn(3), 1+r.Intn(4)
	s.Setup.Digests, s.Setup.Protocol = r.Intn(2) == 0, api.Protocol(1+r.Intn(3))
	s.Setup.Policy = api.Policy{Zero: api.Choice(1 + r.Intn(6)), One: []api.Choice{1, 7, 8}[r.Intn(3)], Two: 1}
	asks := []api.Ask{1, 1, 1, 1, 3, 4, 4, 5, 6, 8, 9, 9}
	kinds := []api.ActKind{1, 1, 1, 1, 1, 1, 2, 2, 3, 3, 3, 3, 4, 4, 5, 6, 7, 10, 10, 10, 10}
	if kind < 2 {
		s.Setup.Hot = 4
	} else {
		asks = append(asks, 6, 7)
		kinds = append(kinds, 9, 8)
	}
	if kind == 3 {
		asks = append(asks, 2)
		s.Setup.Fencing = api.Fencing(1 + r.Intn(3))
	}
	for range r.Intn(40) {
		s.Draws = append(s.Draws, uint64(len(s.Draws)*1000+1+r.Intn(999)))
	}
	var l []api.Act
	for range n {
		a := api.Act{Kind: kinds[r.Intn(len(kinds))], Node: r.Intn(2), N: -1 - r.Intn(20), Ask: asks[r.Intn(len(asks))], Picks: []int{r.Intn(3), r.Intn(3)}}
		if a.Kind == api.ActFuse {
			a.N = r.Intn(12)
		}
		a.Cmd = command(r, s.Setup.Blocks)
		l = append(l, a)
		if a.Kind == api.ActTick && r.Intn(8) == 0 {
			l = append(l, times(8, a)...)
		}
	}
	return s, l
}

func command(r *rand.Rand, blocks int) api.Command {
	c := api.Command{Who: r.Intn(3), Kind: []api.CmdKind{1, 1, 1, 2, 2, 2, 2, 3, 4, 5, 6, 7}[r.Intn(12)]}
	switch c.Kind {
	case api.CmdRead, api.CmdWrite, api.CmdTrim, api.CmdZeroes:
		c.Block = r.Intn(blocks + r.Intn(2))
		if c.Kind == api.CmdWrite {
			c.Data = of(byte(r.Intn(256)))
		}
	case api.CmdPROut:
		c.Action = api.Action{Kind: api.ResKind(1 + r.Intn(6)), Key: uint64(r.Intn(3)), New: uint64(r.Intn(3)), Type: api.ResType(r.Intn(7))}
	}
	return c
}

// P24.6: worlds of all kinds are judged right; and much happens in them.
func TestWorlds(t *testing.T) {
	reigns, answered, resyncs := 0, 0, 0
	for seed := range int64(300) {
		s, l := script(seed, 150)
		w := run(t, s, l...)
		if v := judge.All(w); v != right {
			t.Error(seed, v)
		}
		for _, x := range w.Seen() {
			if len(x.Image) > 0 {
				reigns++
			}
			resyncs += len(x.Wrote)
		}
		for _, c := range w.History() {
			if c.Done && c.Answer.Code == api.OK {
				answered++
			}
		}
	}
	if reigns < 150 || answered < 300 || resyncs < 40 {
		t.Error(reigns, answered, resyncs)
	}
}

func harms(a api.Act) bool {
	return a.Kind == api.ActFail || a.Kind == api.ActBlank || a.Kind == api.ActAsk && a.Ask == api.AskDetach
}

// P24.1, P24.4: the verdicts are those of the layers below.
func TestBelow(t *testing.T) {
	for seed := range int64(40) {
		s, l := script(seed, 100)
		w := run(t, s, l...)
		if judge.Lines(w) != ghost.Check(w) {
			t.Error(seed)
		}
		if s.Setup.Fencing == api.Stonith && s.Setup.Hot == 4 && s.Setup.Protocol == api.ProtocolC && !judge.Forced(w) && !slices.ContainsFunc(l, harms) && judge.Linear(w) != (linear.Check(w) == api.OK) {
			t.Error(seed, "guarded")
		}
	}
}

// P24.1, P24.3: what is wrong is told. The words of the node's chapter let a Primary whose disk dies give the grant back while its blocks still go: who has not got them may be promoted then, and what was answered is lost.
func TestTellsWrong(t *testing.T) {
	carry := func(n int) api.Act { return api.Act{Kind: api.ActCarry, N: n} }
	read := api.Act{Kind: api.ActCommand, Node: 1, Cmd: api.Command{Kind: api.CmdRead, Block: 1}}
	w := run(t, stage(5, 6, 7, 8, 9, 10), ask(0, api.AskPromote), write(0, 1, 7), on(1), tick(0), tick(1), carry(0), carry(2), carry(3), carry(6), fuse(0, 0), write(0, 2, 9), off(1), on(1), ask(1, api.AskPromote), read)
	h := w.History()
	if v := w.View(); v.Role[1] != api.Primary || len(h) != 3 || !h[0].Done || !h[2].Done || h[2].Answer.Data != of(0) {
		t.Fatal(v, h)
	}
	want := right
	want.Linear, want.Firsts = false, false
	if v := judge.All(w); v != want || judge.Linear(w) || judge.Firsts(w) || !judge.One(w) || !judge.Promotes(w) || !judge.Lines(w) || !judge.Heals(w) {
		t.Error(v)
	}
	// A protocol by which that may be is not judged, nor a world that is not guarded.
	for i, f := range []func(s *api.Stage){func(s *api.Stage) { s.Setup.Protocol = api.ProtocolA }, func(s *api.Stage) { s.Setup.Hot = 1 }} {
		s := w.Stage()
		f(&s)
		judged(t, i, run(t, s, w.Log()...))
	}
}
