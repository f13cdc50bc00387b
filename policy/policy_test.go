package policy_test

import (
	"testing"

	"gemel/api"
	"gemel/policy"
)

func side(node int, role api.Role, current uint64, marked int) api.Side {
	return api.Side{Node: node, Role: role, Line: api.Line{Current: current}, Marked: marked}
}

// P16.1: which policies may be.
func TestMay(t *testing.T) {
	for zero := api.Choice(-1); zero < 11; zero++ {
		for one := api.Choice(-1); one < 11; one++ {
			for two := api.Choice(-1); two < 11; two++ {
				want := zero >= 1 && zero <= 6 && (one == 1 || one == 7 || one == 8) && two == 1
				p := api.Policy{Zero: zero, One: one, Two: two}
				if policy.May(p) != want {
					t.Error(p)
				}
				if v, ok := policy.Victim(p, side(0, 1, 5, 0), side(1, 1, 6, 0)); !want && (v != 0 || ok) {
					t.Error(p, v, ok)
				}
			}
		}
	}
}

// P16.1: what a choice for none says; roles are not looked at.
func TestZero(t *testing.T) {
	for i, x := range []struct {
		c                api.Choice
		cur0, cur1       uint64
		marked0, marked1 int
		victim           int
		ok               bool
	}{
		{api.Disconnect, 5, 6, 1, 2, 0, false}, {0, 5, 6, 1, 2, 0, false}, {api.DiscardSecondary, 5, 6, 1, 2, 0, false}, {api.Consensus, 5, 6, 1, 2, 0, false}, {-1, 5, 6, 1, 2, 0, false},
		{api.DiscardYounger, 5, 6, 1, 2, 1, true}, {api.DiscardYounger, 6, 5, 1, 2, 0, true}, {api.DiscardYounger, 5, 5, 1, 2, 1, true},
		{api.DiscardOlder, 5, 6, 2, 1, 0, true}, {api.DiscardOlder, 6, 5, 1, 2, 1, true}, {api.DiscardOlder, 5, 5, 1, 2, 1, true},
		{api.DiscardLeast, 5, 6, 1, 2, 0, true}, {api.DiscardLeast, 5, 6, 2, 1, 1, true}, {api.DiscardLeast, 6, 5, 2, 2, 1, true},
		{api.DiscardZero, 5, 6, 1, 2, 0, true}, {api.DiscardOne, 6, 5, 1, 2, 1, true},
	} {
		for _, role := range []api.Role{0, api.Secondary, api.Primary} {
			a, b := side(0, role, x.cur0, x.marked0), side(1, api.Primary, x.cur1, x.marked1)
			if v, ok := policy.Zero(x.c, a, b); v != x.victim || ok != x.ok {
				t.Error(i, v, ok)
			}
			if v, ok := policy.Zero(x.c, b, a); v != x.victim || ok != x.ok {
				t.Error(i, "turned", v, ok)
			}
		}
		for _, l := range [][2]int{{0, 0}, {1, 1}, {0, 2}, {-1, 1}, {2, 3}, {2, -1}, {-1, 2}, {1 << 62, 1}} {
			if v, ok := policy.Zero(x.c, side(l[0], 1, 5, 1), side(l[1], 1, 6, 2)); v != 0 || ok {
				t.Error(i, l)
			}
		}
	}
}

// P16.1: by how many are Primary.
func TestVictim(t *testing.T) {
	pr, se := api.Primary, api.Secondary
	for i, x := range []struct {
		zero, one    api.Choice
		role0, role1 api.Role
		victim       int
		ok           bool
	}{
		{api.DiscardYounger, api.Disconnect, se, se, 1, true}, {api.DiscardYounger, api.Disconnect, 0, 7, 1, true}, {api.Disconnect, api.DiscardSecondary, se, se, 0, false},
		{api.DiscardYounger, api.Disconnect, pr, se, 0, false}, {api.DiscardYounger, api.DiscardSecondary, pr, se, 1, true}, {api.DiscardYounger, api.DiscardSecondary, se, pr, 0, true}, {api.DiscardYounger, api.DiscardSecondary, 0, pr, 0, true},
		{api.DiscardYounger, api.Consensus, pr, se, 1, true}, {api.DiscardYounger, api.Consensus, se, pr, 0, false}, {api.DiscardZero, api.Consensus, se, pr, 0, true}, {api.Disconnect, api.Consensus, pr, se, 0, false},
		{api.DiscardYounger, api.DiscardSecondary, pr, pr, 0, false},
	} {
		p := api.Policy{Zero: x.zero, One: x.one, Two: api.Disconnect}
		a, b := side(0, x.role0, 5, 0), side(1, x.role1, 6, 0)
		if v, ok := policy.Victim(p, a, b); v != x.victim || ok != x.ok {
			t.Error(i, v, ok)
		}
	}
	p := api.Policy{Zero: api.DiscardOne, One: api.DiscardSecondary, Two: api.Disconnect}
	for _, l := range [][2]int{{0, 0}, {1, 1}, {0, 2}, {-1, 0}} {
		if v, ok := policy.Victim(p, side(l[0], pr, 5, 1), side(l[1], se, 6, 2)); v != 0 || ok {
			t.Error(l)
		}
	}
}

// P16.2: sides may be turned; a Primary never gives way.
func TestFollows(t *testing.T) {
	for zero := api.Choice(0); zero < 9; zero++ {
		for one := api.Choice(0); one < 9; one++ {
			for n := range 81 {
				p := api.Policy{Zero: zero, One: one, Two: api.Disconnect}
				a, b := side(0, api.Role(n%3), uint64(n/3%3), n/9%3), side(1, api.Role(n/27), 1, 1)
				v, ok := policy.Victim(p, a, b)
				w, also := policy.Victim(p, b, a)
				if v != w || ok != also || ok && [2]api.Side{a, b}[v].Role == api.Primary {
					t.Error(p, a, b, v, w)
				}
			}
		}
	}
}
