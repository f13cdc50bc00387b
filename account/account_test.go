package account_test

import (
	"math/rand"
	"slices"
	"testing"

	"gemel/account"
	"gemel/api"
	"gemel/world"
)

func done(kind api.CmdKind, from, to int, code api.Errno) api.Call {
	return api.Call{Cmd: api.Command{Kind: kind}, From: from, To: to, Done: true, Gone: -1, Answer: api.Answer{Code: code}}
}

func gone(kind api.CmdKind, from, at int) api.Call {
	return api.Call{Cmd: api.Command{Kind: kind}, From: from, Gone: at}
}

func waits(kind api.CmdKind, from int) api.Call {
	return api.Call{Cmd: api.Command{Kind: kind}, From: from, Gone: -1}
}

func some() []api.Call {
	return []api.Call{done(2, 3, 10, 0), done(1, 4, 4, 9), gone(2, 5, 0), waits(1, 6), done(2, 7, 9, 0), waits(3, 8), {Cmd: api.Command{Kind: 1}, From: 9, To: 11, Done: true, Gone: 5}}
}

// P27.1: what calls come to.
func TestOf(t *testing.T) {
	if a := account.Of(nil); a != (api.Account{}) {
		t.Error(a)
	}
	want := api.Account{Calls: 7, Done: 4, Refused: 1, Gone: 1, Under: 2, Waits: 11, Longest: 7}
	if a := account.Of(some()); a != want {
		t.Error(a)
	}
	kinds := account.Kinds(some())
	if !slices.Equal(kinds, []api.KindAccount{
		{Kind: 1, Account: api.Account{Calls: 3, Done: 2, Refused: 1, Under: 1, Waits: 2, Longest: 2}},
		{Kind: 2, Account: api.Account{Calls: 3, Done: 2, Gone: 1, Waits: 9, Longest: 7}},
		{Kind: 3, Account: api.Account{Calls: 1, Under: 1}},
	}) {
		t.Error(kinds)
	}
	if l := account.Kinds([]api.Call{waits(9, 0), waits(-1, 0), waits(0, 0)}); len(l) != 3 || l[0].Kind != -1 || l[1].Kind != 0 || l[2].Kind != 9 || len(account.Kinds(nil)) != 0 {
		t.Error(l)
	}
}

// P27.1, P27.5: some calls' account, and others', are that of all; all are answered, gone, or under way.
func TestAdd(t *testing.T) {
	l := some()
	for i := range len(l) + 1 {
		if a := account.Add(account.Of(l[:i]), account.Of(l[i:])); a != account.Of(l) || a.Done+a.Gone+a.Under != a.Calls {
			t.Error(i, a)
		}
	}
}

// P27.2: waits of so many.
func TestWait(t *testing.T) {
	var l []api.Call
	for _, n := range []int{5, 1, 9, 3, 7} {
		l = append(l, done(1, 10, 10+n, 0), waits(1, 0), gone(1, 0, 99))
	}
	for _, x := range [][3]int64{{0, 1, 1}, {1, 5, 1}, {1, 1000, 1}, {2, 5, 3}, {1, 2, 5}, {3, 5, 5}, {601, 1000, 7}, {4, 5, 7}, {801, 1000, 9}, {1, 1, 9}, {0, 1000, 1}, {1000, 1000, 9}} {
		if n, ok, e := account.Wait(l, x[0], x[1]); n != x[2] || !ok || e != api.OK {
			t.Error(x, n, ok, e)
		}
	}
	for _, x := range [][2]int64{{0, 0}, {1, 0}, {-1, 5}, {6, 5}, {0, -1}, {0, 1001}, {1 << 62, 1 << 62}} {
		if n, ok, e := account.Wait(l, x[0], x[1]); n != 0 || ok || e != api.ErrArg {
			t.Error(x, n, ok, e)
		}
	}
	if n, ok, e := account.Wait([]api.Call{waits(1, 0)}, 1, 2); n != 0 || ok || e != api.OK {
		t.Error(n, ok, e)
	}
	if n, ok, e := account.Wait([]api.Call{done(1, 0, 1<<40, 0)}, 1, 2); n != 1<<40 || !ok || e != api.OK {
		t.Error(n, ok, e)
	}
}

// view is one in which these nodes are Primary.
func view(l ...int) api.View {
	v := api.View{Up: [2]bool{true, true}, Role: [2]api.Role{1, 1}}
	for _, i := range l {
		v.Role[i] = api.Primary
	}
	return v
}

func seen(act int, before, after api.View) api.Seen {
	return api.Seen{Act: act, Before: before, After: after}
}

func reign(node, from, to int) api.Reign { return api.Reign{Node: node, From: from, To: to} }

func pause(from, to int) api.Pause { return api.Pause{From: from, To: to} }

// P27.3: the example.
func TestExample(t *testing.T) {
	l := []api.Seen{seen(3, view(), view(0)), seen(5, view(0), view(0, 1)), seen(9, view(0, 1), view(1))}
	if r := account.Reigns(l); !slices.Equal(r, []api.Reign{reign(0, 3, 9), reign(1, 5, -1)}) {
		t.Error(r)
	}
	if p := account.Pauses(l, 20); !slices.Equal(p, []api.Pause{pause(0, 3)}) || !account.Both(l) {
		t.Error(p)
	}
}

// P27.3: reigns, pauses, and whether both reigned.
func TestReigns(t *testing.T) {
	down := view(0)
	down.Up[0] = false
	for i, x := range []struct {
		l      []api.Seen
		acts   int
		reigns []api.Reign
		pauses []api.Pause
		both   bool
	}{
		{nil, 5, nil, []api.Pause{pause(0, 5)}, false},
		{nil, 0, nil, nil, false}, {nil, -3, nil, nil, false}, {nil, 1 << 62, nil, []api.Pause{pause(0, 1<<62)}, false},
		{[]api.Seen{seen(0, view(), view(0))}, 5, []api.Reign{reign(0, 0, -1)}, nil, false},
		{[]api.Seen{seen(2, view(0), view(0))}, 5, []api.Reign{reign(0, 2, -1)}, []api.Pause{pause(0, 2)}, false},
		{[]api.Seen{seen(2, view(), view(0)), seen(4, view(0), view())}, 7, []api.Reign{reign(0, 2, 4)}, []api.Pause{pause(0, 2), pause(4, 7)}, false},
		{[]api.Seen{seen(2, view(), view(0)), seen(4, view(), view(1))}, 7, []api.Reign{reign(0, 2, 4), reign(1, 4, -1)}, []api.Pause{pause(0, 2)}, false},
		{[]api.Seen{seen(2, view(0), view())}, 7, []api.Reign{reign(0, 2, 2)}, []api.Pause{pause(0, 7)}, false},
		{[]api.Seen{seen(2, view(), view(0, 1))}, 3, []api.Reign{reign(0, 2, -1), reign(1, 2, -1)}, []api.Pause{pause(0, 2)}, true},
		{[]api.Seen{seen(2, view(0, 1), view())}, 3, []api.Reign{reign(0, 2, 2), reign(1, 2, 2)}, []api.Pause{pause(0, 3)}, true},
		{[]api.Seen{seen(2, view(), view(0)), seen(6, down, view())}, 9, []api.Reign{reign(0, 2, 6)}, []api.Pause{pause(0, 2), pause(6, 9)}, false},
		{[]api.Seen{seen(8, view(), view(0))}, 5, []api.Reign{reign(0, 8, -1)}, []api.Pause{pause(0, 5)}, false},
		{[]api.Seen{seen(2, view(), view(0)), seen(8, view(0), view())}, 5, []api.Reign{reign(0, 2, 8)}, []api.Pause{pause(0, 2)}, false},
		{[]api.Seen{seen(1, view(), view(0)), seen(3, view(0), view(1)), seen(4, view(1), view()), seen(6, view(), view(1)), seen(6, view(1), view())}, 8, []api.Reign{reign(0, 1, 3), reign(1, 3, 4), reign(1, 6, 6)}, []api.Pause{pause(0, 1), pause(4, 8)}, false},
		{[]api.Seen{seen(1, view(), view(1)), seen(2, view(1), view(0, 1)), seen(3, view(0, 1), view(1)), seen(6, view(1), view())}, 8, []api.Reign{reign(1, 1, 6), reign(0, 2, 3)}, []api.Pause{pause(0, 1), pause(6, 8)}, true},
	} {
		if r := account.Reigns(x.l); !slices.Equal(r, x.reigns) {
			t.Error(i, r)
		}
		if p := account.Pauses(x.l, x.acts); !slices.Equal(p, x.pauses) {
			t.Error(i, p)
		}
		if account.Both(x.l) != x.both {
			t.Error(i)
		}
	}
}

// P27.5: reigns and pauses leave no act out, and pauses have none of a reign's.
func TestLeaveNoneOut(t *testing.T) {
	for seed := range int64(500) {
		r := rand.New(rand.NewSource(seed))
		var l []api.Seen
		act := 0
		views := []api.View{view(), view(0), view(1), view(0, 1)}
		for range r.Intn(12) {
			act += r.Intn(4)
			l = append(l, seen(act, views[r.Intn(4)], views[r.Intn(4)]))
		}
		acts := r.Intn(30)
		has := make([]bool, acts)
		for _, x := range account.Reigns(l) {
			to := x.To
			if to < 0 {
				to = acts
			}
			for i := x.From; i < min(to, acts); i++ {
				has[i] = true
			}
		}
		last := -1
		for _, p := range account.Pauses(l, acts) {
			if p.From <= last || p.To <= p.From || p.To > acts {
				t.Fatal(seed, p)
			}
			last = p.To
			for i := p.From; i < p.To; i++ {
				if has[i] {
					t.Fatal(seed, i)
				}
				has[i] = true
			}
		}
		if slices.Contains(has, false) {
			t.Fatal(seed, has)
		}
	}
}

// P27.4: all that, in lines.
func TestLines(t *testing.T) {
	if l := account.Lines(nil, nil, 0); !slices.Equal(l, []string{"calls 0 done 0 refused 0 gone 0 under 0 waits 0 longest 0"}) {
		t.Error(l)
	}
	s := []api.Seen{seen(3, view(), view(0)), seen(5, view(0), view(0, 1)), seen(9, view(0, 1), view(1))}
	want := []string{"calls 7 done 4 refused 1 gone 1 under 2 waits 11 longest 7", "kind 1 3 2 2", "kind 2 3 2 9", "kind 3 1 0 0", "half 2", "reign 0 3 9", "reign 1 5 -1", "pause 0 3", "both"}
	if l := account.Lines(some(), s, 20); !slices.Equal(l, want) {
		t.Error(l)
	}
}

// P27.4: a world's lines.
func TestWorld(t *testing.T) {
	for _, w := range []*world.World{nil, {}} {
		if l := account.World(w); len(l) != 0 {
			t.Error(l)
		}
	}
	s := api.Stage{Setup: api.Setup{Blocks: 4, Hot: 1, Cap: 1, Window: 1, Protocol: api.ProtocolC, Fencing: api.Stonith, Policy: api.Policy{Zero: 1, One: 1, Two: 1}}}
	w, _, _ := world.Run(s, api.Act{Kind: api.ActTick}, api.Act{Kind: api.ActTick, Node: 1}, api.Act{Kind: api.ActCarryAll}, api.Act{Kind: api.ActAsk, Ask: api.AskPromote}, api.Act{Kind: api.ActCarryAll}, api.Act{Kind: api.ActCommand, Cmd: api.Command{Kind: api.CmdWrite}}, api.Act{Kind: api.ActCommand, Cmd: api.Command{Kind: api.CmdRead, Block: 9}}, api.Act{Kind: api.ActCarryAll})
	want := []string{"calls 2 done 2 refused 1 gone 0 under 0 waits 2 longest 2", "kind 1 1 1 0", "kind 2 1 1 2", "half 0", "reign 0 4 -1", "pause 0 4"}
	if l := account.World(w); !slices.Equal(l, want) || !slices.Equal(l, account.Lines(w.History(), w.Seen(), w.Acts())) {
		t.Error(l)
	}
}
