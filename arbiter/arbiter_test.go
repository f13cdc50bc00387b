package arbiter_test

import (
	"math/rand"
	"slices"
	"testing"

	"gemel/api"
	"gemel/arbiter"
)

func events(a *arbiter.Arbiter) []api.Grant {
	var out []api.Grant
	for i, g := range a.History() {
		if i != len(out) {
			return nil
		}
		out = append(out, g)
	}
	return out
}

func took(t *testing.T, a *arbiter.Arbiter, node int, want bool, e api.Errno) {
	t.Helper()
	if ok, f := a.Take(node); ok != want || f != e {
		t.Error(node, ok, f)
	}
}

func released(t *testing.T, a *arbiter.Arbiter, node int, want bool, e api.Errno) {
	t.Helper()
	if ok, f := a.Release(node); ok != want || f != e {
		t.Error(node, ok, f)
	}
}

func holder(t *testing.T, a *arbiter.Arbiter, node int, held bool) {
	t.Helper()
	if n, ok := a.Holder(); n != node || ok != held {
		t.Error(n, ok)
	}
}

// P17.1, P17.2: taking and releasing, and what is noted.
func TestTake(t *testing.T) {
	a := arbiter.New()
	holder(t, a, 0, false)
	released(t, a, 0, false, api.OK)
	took(t, a, 1, true, api.OK)
	holder(t, a, 1, true)
	took(t, a, 0, false, api.ErrHeld)
	took(t, a, 1, false, api.OK)
	released(t, a, 0, false, api.OK)
	holder(t, a, 1, true)
	released(t, a, 1, true, api.OK)
	holder(t, a, 0, false)
	took(t, a, 0, true, api.OK)
	holder(t, a, 0, true)
	for _, n := range []int{-1, 2, 1 << 62} {
		took(t, a, n, false, api.ErrArg)
		released(t, a, n, false, api.ErrArg)
	}
	if l := events(a); a.Len() != 3 || !slices.Equal(l, []api.Grant{{Node: 1, Taken: true}, {Node: 1}, {Node: 0, Taken: true}}) {
		t.Error(l)
	}
}

// P17.2: History goes over what happened until it was called; it may be left, and gone through again.
func TestHistory(t *testing.T) {
	a := arbiter.New()
	a.Take(0)
	a.Release(0)
	h := a.History()
	a.Take(1)
	for i := range h {
		if i != 0 {
			t.Error(i)
		}
		break
	}
	for range 2 {
		n := 0
		for i, g := range h {
			if i != n || g != (api.Grant{Taken: n == 0}) {
				t.Error(i, g)
			}
			n++
		}
		if n != 2 {
			t.Error(n)
		}
	}
}

// P17.2: copies, and what Same looks at.
func TestCopySame(t *testing.T) {
	a, b := arbiter.New(), arbiter.New()
	if !a.Same(b) {
		t.Error("new ones")
	}
	a.Take(1)
	if a.Same(b) {
		t.Error("the grant")
	}
	c := a.Copy()
	if !c.Same(a) || c.Len() != 1 {
		t.Error("Copy")
	}
	c.Release(1)
	c.Take(0)
	if holder(t, a, 1, true); a.Len() != 1 || a.Same(c) {
		t.Error("it goes on apart")
	}
	if a.Release(1); a.Same(b) {
		t.Error("what happened")
	}
	b.Take(0)
	if b.Release(0); a.Same(b) {
		t.Error("to whom it happened")
	}
}

// P17.1, P17.2: nil and zero arbiters.
func TestNil(t *testing.T) {
	for _, a := range []*arbiter.Arbiter{nil, {}} {
		took(t, a, 5, false, api.ErrNil)
		took(t, a, 0, false, api.ErrNil)
		released(t, a, 5, false, api.ErrNil)
		holder(t, a, 0, false)
		if len(events(a)) != 0 || a.Len() != 0 || a.Copy() != nil || !a.Same(nil) || !a.Same(&arbiter.Arbiter{}) || a.Same(arbiter.New()) || arbiter.New().Same(a) {
			t.Error("nil")
		}
	}
}

// P17.3: takings and releases change places; between takings of unlike nodes stands a release.
func TestFollows(t *testing.T) {
	r := rand.New(rand.NewSource(5))
	a := arbiter.New()
	for range 2000 {
		if r.Intn(2) == 0 {
			a.Take(r.Intn(2))
		} else {
			a.Release(r.Intn(2))
		}
	}
	was := api.Grant{}
	for i, g := range events(a) {
		if g.Taken != (i%2 == 0) || !g.Taken && g.Node != was.Node {
			t.Fatal(i, g)
		}
		was = g
	}
	if a.Len() < 100 {
		t.Error(a.Len())
	}
}

// P17.2: what happens to a copy does not happen to what it is of, however much happened ahead.
func TestCopyApart(t *testing.T) {
	a := arbiter.New()
	for range 9 {
		a.Take(0)
		c := a.Copy()
		c.Release(0)
		c.Take(1)
		a.Release(0)
		a.Take(0)
		if l := events(c); !l[len(l)-1].Taken || l[len(l)-1].Node != 1 || l[len(l)-2].Taken {
			t.Error(l)
		}
		if l := events(a); l[len(l)-1] != (api.Grant{Taken: true}) {
			t.Error(l)
		}
	}
}
