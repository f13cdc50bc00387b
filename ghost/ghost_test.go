package ghost_test

import (
	"math/rand"
	"slices"
	"testing"

	"gemel/api"
	"gemel/ghost"
	"gemel/uuid"
	"gemel/world"
)

func line(l ...uint64) api.Line {
	l = append(l, 0, 0, 0, 0)
	return api.Line{Current: l[0], Base: l[1], History: [2]uint64{l[2], l[3]}}
}

func born(l ...uint64) []api.Born {
	var out []api.Born
	for i := 0; i+1 < len(l); i += 2 {
		out = append(out, api.Born{Parent: l[i], Child: l[i+1]})
	}
	return out
}

// family: 1; 2 and 3 of 1; 4 of 3; 5 of 4; 6 of 5.
func family(t *testing.T) *ghost.Tree {
	t.Helper()
	x, e := ghost.Of(1, born(1, 2, 1, 3, 3, 4, 4, 5, 5, 6)...)
	if e != api.OK {
		t.Fatal(e)
	}
	return x
}

// P22.1: which births may be; the first wrong one tells it.
func TestOf(t *testing.T) {
	for i, x := range []struct {
		first uint64
		l     []api.Born
		e     api.Errno
	}{
		{0, nil, api.ErrArg}, {0, born(9, 9), api.ErrArg}, {1, nil, api.OK}, {1, born(1, 0), api.ErrArg}, {1, born(9, 0), api.ErrArg}, {1, born(1, 1), api.ErrArg}, {1, born(1, 2, 1, 2), api.ErrArg}, {1, born(9, 2), api.ErrNone}, {1, born(0, 2), api.ErrNone}, {1, born(2, 3, 1, 2), api.ErrNone}, {1, born(1, 2, 9, 2, 9, 3), api.ErrArg}, {1, born(9, 3, 1, 0), api.ErrNone}, {1, born(2, 2), api.ErrNone}, {1, born(1, 2, 2, 3), api.OK},
	} {
		if y, e := ghost.Of(x.first, x.l...); e != x.e || (y == nil) != (e != api.OK) {
			t.Error(i, e)
		}
	}
}

// P22.1: ways up, and what is there.
func TestUp(t *testing.T) {
	x := family(t)
	for g, want := range map[uint64][]uint64{0: nil, 1: nil, 2: {1}, 3: {1}, 4: {3, 1}, 5: {4, 3, 1}, 6: {5, 4, 3, 1}, 7: nil} {
		if up := x.Up(g); !slices.Equal(up, want) || x.Has(g) != (g > 0 && g < 7) {
			t.Error(g, up)
		}
	}
	if x.Len() != 6 {
		t.Error(x.Len())
	}
	for range 2 {
		var got [][2]uint64
		for g, p := range x.All() {
			got = append(got, [2]uint64{g, p})
		}
		if !slices.Equal(got, [][2]uint64{{1, 0}, {2, 1}, {3, 1}, {4, 3}, {5, 4}, {6, 5}}) {
			t.Error(got)
		}
	}
	for g := range x.All() {
		if g != 1 {
			t.Error(g)
		}
		break
	}
}

// P22.1: the nearest common one.
func TestCommon(t *testing.T) {
	x := family(t)
	for _, y := range []struct {
		a, b, want uint64
		ok         bool
	}{{2, 4, 1, true}, {4, 2, 1, true}, {6, 4, 4, true}, {4, 6, 4, true}, {5, 5, 5, true}, {1, 6, 1, true}, {6, 2, 1, true}, {7, 1, 0, false}, {1, 7, 0, false}, {7, 7, 0, false}, {0, 0, 0, false}} {
		if g, ok := x.Common(y.a, y.b); g != y.want || ok != y.ok {
			t.Error(y, g, ok)
		}
	}
}

// P22.2: which lines fit.
func TestFits(t *testing.T) {
	x := family(t)
	for i, y := range []struct {
		l   api.Line
		fit bool
	}{
		{line(), true}, {line(0, 9, 9), true}, {line(1), true}, {line(6), true}, {line(6, 5), true}, {line(6, 5, 4, 3), true}, {line(6, 0, 5, 4), true}, {line(6, 0, 5), true}, {line(6, 5, 0, 4), true}, {line(2, 1), true},
		{line(7), false}, {line(1, 9), false}, {line(6, 4), false}, {line(6, 5, 3), false}, {line(2, 1, 9), false}, {line(2, 0, 3), false},
	} {
		if x.Fits(y.l) != y.fit {
			t.Error(i)
		}
	}
}

// P22.2: what the tree says.
func TestSays(t *testing.T) {
	x := family(t)
	for i, y := range []struct {
		mine, other api.Line
		want        api.Verdict
	}{
		{line(), line(), 1}, {line(), line(6), 2}, {line(6), line(), 3}, {line(6), line(6, 5), 4}, {line(9), line(9), 4},
		{line(4), line(6, 5, 4), 5}, {line(4), line(6, 5), 8}, {line(6, 5, 4), line(4), 6}, {line(6, 9, 9), line(4), 6}, {line(6), line(4), 8},
		{line(2, 1), line(4, 3, 1), 7}, {line(2, 1), line(4, 3), 8}, {line(2), line(4, 3, 1), 8}, {line(9, 1), line(2, 1), 8},
	} {
		if v := x.Says(y.mine, y.other); v != y.want {
			t.Error(i, v)
		}
	}
}

func met(own, other int, a, b api.Line, plan api.Plan) api.Met {
	return api.Met{Own: api.Message{Node: own, Role: 1, Line: a}, Other: api.Message{Node: other, Role: 1, Line: b}, Plan: plan}
}

// P22.2: which meetings are right.
func TestRight(t *testing.T) {
	x := family(t)
	free, young := api.Policy{Zero: 1, One: 1, Two: 1}, api.Policy{Zero: api.DiscardYounger, One: 1, Two: 1}
	for i, y := range []struct {
		p    api.Policy
		m    api.Met
		want bool
	}{
		{free, api.Met{Code: api.ErrArg}, true}, {free, api.Met{Code: api.ErrArg, Plan: api.Plan{Source: 5}}, true},
		{free, met(0, 1, line(6, 5), line(5), api.Plan{Verdict: 6, Source: 0}), true}, {free, met(1, 0, line(5), line(6, 5), api.Plan{Verdict: 6, Source: 0}), true}, {free, met(1, 0, line(6, 5), line(5), api.Plan{Verdict: 5, Source: 1}), true},
		{free, met(0, 1, line(6, 5), line(5), api.Plan{Verdict: 5, Source: 0}), false}, {free, met(0, 1, line(6, 5), line(5), api.Plan{Verdict: 6, Source: 1}), false}, {free, met(0, 1, line(6, 5), line(5), api.Plan{Verdict: 6, Source: -1}), true}, {free, met(0, 1, line(6, 5), line(5), api.Plan{Verdict: 6, Source: -9}), true}, {free, met(0, 1, line(6, 5), line(5), api.Plan{Verdict: 6, Source: 2}), false},
		{free, met(0, 1, line(6, 4), line(5), api.Plan{Verdict: 6, Source: -1}), false}, {free, met(0, 1, line(6, 5), line(9), api.Plan{Verdict: 8, Source: -1}), false},
		{free, met(0, 1, line(6), line(6), api.Plan{Verdict: 4, Source: 1}), true}, {free, met(0, 1, line(), line(6), api.Plan{Verdict: 2, Source: 1}), true}, {free, met(0, 1, line(), line(6), api.Plan{Verdict: 2, Source: 0}), false}, {free, met(0, 1, line(), line(), api.Plan{Verdict: 1, Source: 0}), true},
		{free, met(0, 1, line(2, 1), line(3, 1), api.Plan{Verdict: 7, Source: 0}), false}, {young, met(0, 1, line(2, 1), line(3, 1), api.Plan{Verdict: 7, Source: 0}), true}, {young, met(0, 1, line(2, 1), line(3, 1), api.Plan{Verdict: 7, Source: 1}), false}, {young, met(0, 0, line(2, 1), line(3, 1), api.Plan{Verdict: 7, Source: 0}), false}, {young, met(1, 0, line(3, 1), line(2, 1), api.Plan{Verdict: 7, Source: 0}), true},
		{free, met(7, 9, line(6, 5), line(5), api.Plan{Verdict: 6, Source: 0}), true}, {free, met(1, 1, line(6, 5), line(5), api.Plan{Verdict: 5, Source: 1}), true},
		{free, met(0, 1, line(6), line(2), api.Plan{Verdict: 8, Source: 0}), false},
	} {
		if x.Right(y.p, y.m) != y.want {
			t.Error(i)
		}
	}
}

// P22.1, P22.2: nil and zero trees.
func TestNil(t *testing.T) {
	for _, x := range []*ghost.Tree{nil, {}} {
		g, ok := x.Common(1, 1)
		n := 0
		for range x.All() {
			n++
		}
		if len(x.Up(1)) != 0 || x.Has(1) || x.Has(0) || n != 0 || x.Len() != 0 || g != 0 || ok || x.Fits(line()) || x.Fits(line(1)) || x.Right(api.Policy{}, api.Met{Code: 2}) {
			t.Error("nil")
		}
		for i, y := range []struct {
			mine, other api.Line
			want        api.Verdict
		}{{line(), line(), 1}, {line(), line(1), 2}, {line(1), line(), 3}, {line(1), line(1), 8}, {line(1), line(2, 1), 8}} {
			if v := x.Says(y.mine, y.other); v != y.want {
				t.Error(i, v)
			}
		}
	}
}

func stage(draws ...uint64) api.Stage {
	return api.Stage{Setup: api.Setup{Blocks: 8, Hot: 2, Cap: 2, Window: 2, Protocol: api.ProtocolC, Fencing: api.DontCare, Policy: api.Policy{Zero: api.DiscardYounger, One: 1, Two: 1}}, Draws: draws}
}

func force(i int) api.Act { return api.Act{Kind: api.ActAsk, Node: i, Ask: api.AskForce} }

// P22.3: a world's tree, and whether its draws may be.
func TestWorld(t *testing.T) {
	for i, x := range []struct {
		draws []uint64
		all   []uint64
	}{{nil, []uint64{1<<40 + 1, 1<<40 + 2, 1<<40 + 3}}, {[]uint64{7, 8, 9}, []uint64{7, 8, 9}}, {[]uint64{7}, []uint64{7, 1<<40 + 2, 1<<40 + 3}}, {[]uint64{7, 8, 8}, nil}, {[]uint64{7, 7}, nil}, {[]uint64{0, 8}, nil}, {[]uint64{7, 0}, nil}} {
		w, _, e := world.Run(stage(x.draws...), force(0), force(1))
		if e != api.OK {
			t.Fatal(e)
		}
		y, may := ghost.World(w)
		var got []uint64
		for g := range y.All() {
			got = append(got, g)
		}
		if may != (x.all != nil) || (y == nil) == may || !slices.Equal(got, x.all) || !ghost.Check(w) {
			t.Error(i, may, got)
		}
	}
	for _, w := range []*world.World{nil, {}} {
		if y, may := ghost.World(w); y != nil || may || !ghost.Check(w) {
			t.Error("nil")
		}
	}
}

// some is a script of many acts.
func some(seed int64, n int) (api.Stage, []api.Act) {
	r := rand.New(rand.NewSource(seed))
	s := stage()
	s.Setup.Fencing = api.Fencing(1 + r.Intn(3))
	s.Setup.Policy = api.Policy{Zero: api.Choice(1 + r.Intn(6)), One: []api.Choice{1, 7, 8}[r.Intn(3)], Two: 1}
	var l []api.Act
	for range n {
		a := api.Act{Kind: []api.ActKind{1, 1, 2, 3, 3, 3, 4, 4, 5, 6, 6, 7, 9, 10, 10, 10, 10, 10}[r.Intn(18)], Node: r.Intn(2), N: r.Intn(40), Ask: []api.Ask{1, 1, 2, 3, 4, 4, 5, 6, 7, 8, 9}[r.Intn(11)], Picks: []int{r.Intn(3)}}
		a.Cmd = api.Command{Kind: api.CmdWrite, Block: r.Intn(8), Data: api.Block{byte(r.Intn(200))}}
		l = append(l, a)
	}
	return s, l
}

// P22.4: of lines that fit, what the tree says is what the lines say; of any world Check is yes.
func TestWorlds(t *testing.T) {
	verdicts := map[api.Verdict]int{}
	for seed := range int64(150) {
		s, l := some(seed, 250)
		w, _, _ := world.Run(s, l...)
		if !ghost.Check(w) {
			t.Fatal(seed)
		}
		y, may := ghost.World(w)
		if !may { // one that was blank was forced: a generation without a parent
			continue
		}
		var lines []api.Line
		for _, x := range w.Seen() {
			for _, m := range x.Met {
				lines = append(lines, m.Own.Line, m.Other.Line)
				verdicts[m.Plan.Verdict]++
			}
		}
		for _, a := range lines {
			for _, b := range lines {
				if !y.Fits(a) || y.Says(a, b) != uuid.Compare(a, b) {
					t.Fatal(seed, a, b)
				}
			}
		}
	}
	for v := api.VerdictMineBlank; v <= api.VerdictDiverged; v++ {
		if verdicts[v] == 0 {
			t.Error("no meeting of verdict", v)
		}
	}
}
