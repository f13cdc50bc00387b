package shake_test

import (
	"testing"

	"gemel/api"
	"gemel/shake"
)

const (
	se, pr           = api.Secondary, api.Primary
	less, inco, outd = api.Diskless, api.Inconsistent, api.Outdated
	uptd             = api.UpToDate
)

var free = api.Policy{Zero: api.Disconnect, One: api.Disconnect, Two: api.Disconnect}

func line(l ...uint64) api.Line {
	l = append(l, 0, 0, 0, 0)
	return api.Line{Current: l[0], Base: l[1], History: [2]uint64{l[2], l[3]}}
}

// says is a shake.
func says(role api.Role, state api.State, l api.Line, set uint64, marks string) api.Message {
	m := api.Message{Kind: api.MsgShake, Blocks: 8, Role: role, State: state, Line: l, Set: set}
	for _, c := range marks {
		m.Yes = m.Yes || c == 'y'
		m.Crashed = m.Crashed || c == 'c'
	}
	return m
}

func met(t *testing.T, at int, p api.Policy, a, b api.Message, want api.Plan) {
	t.Helper()
	a.Node, b.Node = 0, 1
	for range 2 {
		if got, e := shake.Meet(p, a, b); got != want || e != api.OK {
			t.Error(at, got, e)
		}
		a, b = b, a
	}
}

func refused(v api.Verdict) api.Plan { return api.Plan{Verdict: v, Refuse: true, Source: -1} }

// P18.1: the rows, of two Secondaries; the other way round the nodes change places.
func TestRows(t *testing.T) {
	type row struct {
		a, b api.Message
		want api.Plan
	}
	of := func(state api.State, l api.Line, set uint64) api.Message { return says(se, state, l, set, "") }
	for i, x := range []row{
		{of(less, line(), 0), of(less, line(), 0), api.Plan{Verdict: 1, Source: -1}},
		{of(less, line(), 0), of(uptd, line(5), 3), api.Plan{Verdict: 2, Source: -1, Table: 1}},
		{of(uptd, line(5), 3), of(less, line(), 0), api.Plan{Verdict: 3, Source: -1}},
		{of(less, line(), 0), of(inco, line(), 0), api.Plan{Verdict: 1, Source: -1, Table: 1}},
		{of(inco, line(), 0), of(inco, line(), 0), refused(1)},
		{of(inco, line(), 0), of(uptd, line(5), 3), api.Plan{Verdict: 2, Source: 1, Full: true, Table: 1}},
		{of(uptd, line(5), 3), of(inco, line(), 1), api.Plan{Verdict: 3, Source: 0, Full: true}},
		{of(outd, line(5), 3), of(inco, line(), 0), refused(3)},
		{of(inco, line(), 0), of(inco, line(5), 0), refused(2)},
		{of(uptd, line(5), 1), of(outd, line(5), 6), api.Plan{Verdict: 4, Source: 0, Set: 7}},
		{of(inco, line(5), 1), of(uptd, line(5, 3), 6), api.Plan{Verdict: 4, Source: 1, Set: 7, Table: 1}},
		{of(inco, line(5), 1), of(outd, line(5), 6), refused(4)},
		{of(uptd, line(5), 0), of(uptd, line(5), 0), api.Plan{Verdict: 4, Source: -1}},
		{of(uptd, line(5), 1), of(uptd, line(5), 4), api.Plan{Verdict: 4, Source: 0, Set: 5}},
		{of(uptd, line(5), 1), of(uptd, line(5), 0), api.Plan{Verdict: 4, Source: 0, Set: 1}},
		{of(uptd, line(5), 0), of(uptd, line(5), 4), api.Plan{Verdict: 4, Source: 0, Set: 4}},
		{of(uptd, line(5, 3), 1), of(uptd, line(3), 4), api.Plan{Verdict: 6, Source: 0, Set: 5}},
		{of(uptd, line(3), 1), of(uptd, line(5, 3), 4), api.Plan{Verdict: 5, Source: 1, Set: 5, Table: 1}},
		{of(uptd, line(5, 4, 3), 1), of(inco, line(3), 4), api.Plan{Verdict: 6, Source: 0, Full: true}},
		{of(outd, line(5, 3), 1), of(uptd, line(3), 4), refused(6)},
		{of(uptd, line(3), 1), of(inco, line(5, 3), 4), refused(5)},
		{of(uptd, line(5, 3), 1), of(uptd, line(7, 3), 4), refused(7)},
		{of(uptd, line(5), 1), of(uptd, line(7), 4), refused(8)},
	} {
		met(t, i, free, x.a, x.b, x.want)
	}
}

// P18.1: who is the source where both are UpToDate, of one generation, and some block is marked.
func TestEqual(t *testing.T) {
	for i, x := range []struct {
		role0, role1   api.Role
		marks0, marks1 string
		source         int
	}{
		{se, se, "", "", 0}, {se, se, "", "c", 1}, {se, se, "c", "", 0}, {se, se, "c", "c", 0}, {se, se, "c", "y", 1}, {se, se, "y", "c", 0}, {se, pr, "c", "", 1}, {pr, se, "", "c", 0}, {pr, se, "y", "c", 0}, {se, pr, "", "yc", 1},
	} {
		a, b := says(x.role0, uptd, line(5), 0, x.marks0), says(x.role1, uptd, line(5), 2, x.marks1)
		met(t, i, free, a, b, api.Plan{Verdict: 4, Source: x.source, Set: 2, Table: x.source})
	}
	met(t, 20, free, says(se, uptd, line(5), 1, "y"), says(se, uptd, line(5), 2, "y"), refused(4))
	met(t, 21, free, says(pr, uptd, line(5), 1, ""), says(se, uptd, line(5), 2, "y"), refused(4))
}

// P18.1: a Primary, or one that has the grant, is the source of what goes, or they refuse.
func TestRefuse(t *testing.T) {
	younger, elder := line(5, 3), line(3)
	met(t, 0, free, says(se, uptd, younger, 1, ""), says(pr, uptd, elder, 0, ""), refused(6))
	met(t, 1, free, says(se, uptd, younger, 1, ""), says(se, uptd, elder, 0, "y"), refused(6))
	met(t, 2, free, says(pr, uptd, younger, 1, "y"), says(se, uptd, elder, 0, "c"), api.Plan{Verdict: 6, Source: 0, Set: 1})
	met(t, 3, free, says(pr, inco, line(), 0, ""), says(se, uptd, elder, 0, ""), refused(2))
	met(t, 4, free, says(pr, outd, line(3), 0, ""), says(se, uptd, elder, 0, ""), refused(4))
	met(t, 5, free, says(se, inco, line(3), 0, "y"), says(se, uptd, elder, 0, ""), refused(4))
	for i, x := range [][2]api.Message{
		{says(pr, uptd, line(5), 0, ""), says(pr, uptd, line(5), 0, "")}, {says(pr, less, line(), 0, ""), says(pr, uptd, line(5), 0, "")}, {says(pr, less, line(), 0, ""), says(pr, less, line(), 0, "")}, {says(pr, uptd, line(5), 0, ""), says(pr, less, line(), 0, "")},
	} {
		met(t, 10+i, free, x[0], x[1], refused([]api.Verdict{4, 2, 1, 3}[i]))
	}
	met(t, 20, free, says(pr, less, line(), 0, "y"), says(se, uptd, line(5), 0, ""), api.Plan{Verdict: 2, Source: -1, Table: 1})
	met(t, 21, free, says(se, uptd, line(5), 0, "y"), says(pr, uptd, line(5), 0, ""), api.Plan{Verdict: 4, Source: -1, Table: 1})
}

// P18.1: whose table counts where nothing goes.
func TestTable(t *testing.T) {
	met(t, 0, free, says(se, less, line(), 0, ""), says(pr, less, line(), 0, ""), api.Plan{Verdict: 1, Source: -1, Table: 1})
	met(t, 1, free, says(pr, less, line(), 0, ""), says(se, uptd, line(5), 0, ""), api.Plan{Verdict: 2, Source: -1, Table: 1})
	met(t, 2, free, says(se, uptd, line(5), 0, ""), says(pr, less, line(), 0, ""), api.Plan{Verdict: 3, Source: -1, Table: 0})
	met(t, 3, free, says(se, uptd, line(5), 0, ""), says(pr, uptd, line(5), 0, ""), api.Plan{Verdict: 4, Source: -1, Table: 1})
}

// P18.1: where lines diverged the policy names who gives way.
func TestDiverged(t *testing.T) {
	p := api.Policy{Zero: api.DiscardLeast, One: api.Consensus, Two: api.Disconnect}
	a, b := says(se, uptd, line(5, 3), 1, ""), says(se, uptd, line(7, 3), 6, "")
	met(t, 0, p, a, b, api.Plan{Verdict: 7, Source: 1, Set: 7, Table: 1})
	b.Role = pr
	met(t, 1, p, a, b, api.Plan{Verdict: 7, Source: 1, Set: 7, Table: 1})
	a.Role, b.Role = pr, se
	met(t, 2, p, a, b, refused(7))
	p.One = api.DiscardSecondary
	met(t, 3, p, a, b, api.Plan{Verdict: 7, Source: 0, Set: 7})
	b.Yes = true
	met(t, 4, p, a, b, refused(7))
	b.Yes, a.State = false, outd
	met(t, 5, p, a, b, refused(7))
	a.State, b.State, b.Line = uptd, inco, line(7, 4, 3)
	met(t, 6, p, a, b, api.Plan{Verdict: 7, Source: 0, Full: true})
}

// P18.1: who may meet.
func TestMay(t *testing.T) {
	good := func() [2]api.Message {
		s := [2]api.Message{says(se, uptd, line(5), 3, ""), says(pr, inco, line(), 1, "")}
		s[1].Node = 1
		return s
	}
	for i, x := range []struct {
		f   func(s *[2]api.Message)
		may bool
	}{
		{func(s *[2]api.Message) {}, true}, {func(s *[2]api.Message) { s[0], s[1] = s[1], s[0] }, true},
		{func(s *[2]api.Message) { s[1].Node = 0 }, false}, {func(s *[2]api.Message) { s[0].Node = 1 }, false}, {func(s *[2]api.Message) { s[1].Node = 2 }, false},
		{func(s *[2]api.Message) { s[1].Blocks = 9 }, false}, {func(s *[2]api.Message) { s[1].Role = 0 }, false}, {func(s *[2]api.Message) { s[1].State = 0 }, false}, {func(s *[2]api.Message) { s[0].Kind = api.MsgState }, false}, {func(s *[2]api.Message) { s[0] = api.Message{Kind: api.MsgPromote} }, false},
		{func(s *[2]api.Message) { s[0].Set = 1 << 8 }, false}, {func(s *[2]api.Message) { s[0].Num = 1 }, false},
		{func(s *[2]api.Message) { s[0].Line = line() }, false}, {func(s *[2]api.Message) { s[0].State, s[0].Line = outd, line(0, 3) }, false}, {func(s *[2]api.Message) { s[1].Line = line(0, 3) }, true},
		{func(s *[2]api.Message) { s[1].State = less }, false}, {func(s *[2]api.Message) { s[1].State, s[1].Set = less, 0 }, true}, {func(s *[2]api.Message) { s[1].State, s[1].Set, s[1].Table = less, 0, []byte{1} }, false}, {func(s *[2]api.Message) { s[1].State, s[1].Set, s[1].Line = less, 0, line(5) }, false}, {func(s *[2]api.Message) { s[1].State, s[1].Set, s[1].Crashed = less, 0, true }, true},
		{func(s *[2]api.Message) { s[0].Table = []byte{1} }, true},
	} {
		s := good()
		x.f(&s)
		if shake.May(s[0], s[1]) != x.may {
			t.Error(i)
		}
		if p, e := shake.Meet(free, s[0], s[1]); (e == api.OK) != x.may || !x.may && (e != api.ErrArg || p != api.Plan{}) {
			t.Error(i, p, e)
		}
	}
	s := good()
	for _, p := range []api.Policy{{}, {Zero: 7, One: 1, Two: 1}, {Zero: 1, One: 2, Two: 1}, {Zero: 1, One: 1, Two: 2}} {
		if x, e := shake.Meet(p, s[0], s[1]); x != (api.Plan{}) || e != api.ErrArg {
			t.Error(p, e)
		}
	}
}

// P18.2: sides, and the younger one, of any messages.
func TestSide(t *testing.T) {
	m := says(pr, uptd, line(5, 3), 0x85, "")
	m.Node = 1
	if s := shake.Side(m); s != (api.Side{Node: 1, Role: pr, Line: line(5, 3), Marked: 3}) {
		t.Error(s)
	}
	for i, x := range []struct {
		a, b api.Line
		want int
	}{{line(5, 3), line(3), 7}, {line(3), line(5, 3), 9}, {line(5), line(5), -1}, {line(), line(5), -1}, {line(5, 3), line(6, 3), -1}, {line(5), line(6), -1}} {
		if n := shake.Younger(api.Message{Node: 7, Line: x.a}, api.Message{Node: 9, Line: x.b}); n != x.want {
			t.Error(i, n)
		}
	}
}

// P18.3: blocks go from the younger to the elder one, or to the policy's victim, or to one that is blank, or no longer UpToDate.
func TestFollows(t *testing.T) {
	lines := []api.Line{line(), line(3), line(5, 3), line(6, 3), line(7, 5, 3), line(9), line(5, 0, 3)}
	for n := range 4 * 4 * 2 * 2 * 4 * 4 * len(lines) * len(lines) {
		pick := func(m int) int { k := n % m; n /= m; return k }
		a, b := says(api.Role(1+pick(2)), api.State(1+pick(4)), lines[pick(len(lines))], uint64(pick(2)), ""), says(api.Role(1+pick(2)), api.State(1+pick(4)), lines[pick(len(lines))], uint64(pick(2)), "")
		a.Node, b.Node = 0, 1
		a.Yes, b.Yes = pick(2) == 1, pick(2) == 1
		p, e := shake.Meet(free, a, b)
		q, f := shake.Meet(free, b, a)
		if p != q || e != f {
			t.Fatal(a, b)
		}
		if e != api.OK || p.Source < 0 {
			continue
		}
		s := [2]api.Message{a, b}
		from, to := s[p.Source], s[1-p.Source]
		if from.State != uptd || to.Role == pr || to.Yes || p.Verdict == api.VerdictDiverged || p.Verdict == api.VerdictUnrelated || p.Table != p.Source || p.Full && p.Set != 0 {
			t.Fatal(a, b, p)
		}
		if y := shake.Younger(a, b); y >= 0 && y != p.Source || y < 0 && to.Line.Current != 0 && to.Line.Current != from.Line.Current {
			t.Fatal(a, b, p)
		}
	}
}
