package overlap_test

import (
	"math/rand"
	"slices"
	"testing"

	"gemel/api"
	"gemel/overlap"
)

func come(t *testing.T, x *overlap.Table, num uint64, block int, writes, way bool) {
	t.Helper()
	if w, e := x.Come(num, block, writes); w != way || e != api.OK {
		t.Error(num, w, e)
	}
}

func done(t *testing.T, x *overlap.Table, num uint64, want ...uint64) {
	t.Helper()
	if l, e := x.Done(num); !slices.Equal(l, want) || e != api.OK {
		t.Error(num, l, e)
	}
}

// P13.1: who is in whose way.
func TestWay(t *testing.T) {
	for _, x := range []struct {
		a, b           int
		aWrites, write bool
		way            bool
	}{
		{5, 5, true, true, false}, {5, 5, true, false, false}, {5, 5, false, true, false}, {5, 5, false, false, true},
		{5, 6, true, true, true}, {63, 0, true, true, true},
		{-1, 5, true, false, false}, {-1, 5, false, true, false}, {-1, 5, false, false, true}, {5, -9, true, false, false}, {5, -9, false, true, false}, {5, -9, false, false, true}, {-1, -2, true, true, false}, {-1, -1, false, false, true}, {-1 << 63, 0, true, true, false},
	} {
		o := overlap.New()
		come(t, o, 1, x.a, x.aWrites, true)
		come(t, o, 2, x.b, x.write, x.way)
	}
}

// P13.1: waiting, in order; also one that waits is in the way.
func TestWaits(t *testing.T) {
	x := overlap.New()
	come(t, x, 1, 5, true, true)
	come(t, x, 2, 5, false, false)
	come(t, x, 3, 6, false, true)
	done(t, x, 1, 2)
	come(t, x, 4, 5, true, false)
	come(t, x, 5, 5, false, false)
	come(t, x, 6, -1, false, false)
	come(t, x, 7, 7, true, false)
	come(t, x, 8, 7, false, false)
	if !slices.Equal(x.Way(), []uint64{2, 3}) || !slices.Equal(x.Waits(), []uint64{4, 5, 6, 7, 8}) || x.Len() != 7 {
		t.Error(x.Way(), x.Waits())
	}
	done(t, x, 3)
	done(t, x, 2, 4)
	done(t, x, 7, 8)
	done(t, x, 4, 5, 6)
	if !slices.Equal(x.Way(), []uint64{5, 6, 8}) || len(x.Waits()) != 0 {
		t.Error(x.Way(), x.Waits())
	}
}

// P13.1: what is refused, and that it changes nothing.
func TestErrors(t *testing.T) {
	x := overlap.New()
	come(t, x, 1, 5, true, true)
	come(t, x, 2, 5, true, false)
	for _, b := range []int{64, 1 << 62} {
		if w, e := x.Come(1, b, false); w || e != api.ErrArg {
			t.Error(w, e)
		}
	}
	for _, n := range []uint64{1, 2} {
		if w, e := x.Come(n, 7, false); w || e != api.ErrExists {
			t.Error(w, e)
		}
	}
	if l, e := x.Done(3); len(l) != 0 || e != api.ErrNone {
		t.Error(l, e)
	}
	if x.Len() != 2 {
		t.Error(x.Len())
	}
	if l := x.Clear(); !slices.Equal(l, []uint64{1, 2}) || x.Len() != 0 || len(x.Clear()) != 0 {
		t.Error(l)
	}
	come(t, x, 2, 5, true, true)
}

// P13.2: Busy looks at those on their way alone.
func TestBusy(t *testing.T) {
	x := overlap.New()
	come(t, x, 1, 5, true, true)
	come(t, x, 2, -1, true, false)
	come(t, x, 3, 6, true, false)
	for _, b := range []int{-1, 0, 6, 64} {
		if x.Busy(b) {
			t.Error(b)
		}
	}
	if !x.Busy(5) {
		t.Error("of the block")
	}
	done(t, x, 1, 2)
	for _, b := range []int{-7, 0, 5, 63} {
		if !x.Busy(b) {
			t.Error(b)
		}
	}
}

// P13.2: a copy goes on apart.
func TestCopy(t *testing.T) {
	x := overlap.New()
	come(t, x, 1, 5, true, true)
	come(t, x, 2, 5, true, false)
	c := x.Copy()
	done(t, c, 1, 2)
	come(t, c, 3, 9, false, true)
	if !slices.Equal(x.Way(), []uint64{1}) || !slices.Equal(x.Waits(), []uint64{2}) || !slices.Equal(c.Way(), []uint64{2, 3}) {
		t.Error(x.Way(), c.Way())
	}
}

// P13.1, P13.2: nil and zero tables.
func TestNil(t *testing.T) {
	for _, x := range []*overlap.Table{nil, {}} {
		w, e := x.Come(1, 99, true)
		l, f := x.Done(1)
		if w || e != api.ErrNil || len(l) != 0 || f != api.ErrNil || len(x.Clear()) != 0 || len(x.Way()) != 0 || len(x.Waits()) != 0 || x.Busy(-1) || x.Len() != 0 || x.Copy() != nil {
			t.Error("nil")
		}
		if _, e := x.Come(1, 1, true); e != api.ErrNil {
			t.Error("a zero one stays as nil")
		}
	}
}

// P13.3: no two on their way are in each other's way; who came first goes first; none waits for ever.
func TestOrder(t *testing.T) {
	type request struct {
		block  int
		writes bool
	}
	for seed := range int64(200) {
		r := rand.New(rand.NewSource(seed))
		x := overlap.New()
		all := map[uint64]request{}
		started := map[uint64]int{}
		clock := 0
		go1 := func(l ...uint64) {
			for _, n := range l {
				clock++
				started[n] = clock
			}
		}
		hinder := func(a, b request) bool {
			return (a.writes || b.writes) && (a.block < 0 || b.block < 0 || a.block == b.block)
		}
		for n := range uint64(40) {
			q := request{r.Intn(4) - 1, r.Intn(2) == 0}
			all[n] = q
			if w, _ := x.Come(n, q.block, q.writes); w {
				go1(n)
			}
			if way := x.Way(); r.Intn(2) == 0 && len(way) > 0 {
				l, _ := x.Done(way[r.Intn(len(way))])
				go1(l...)
			}
			for i, a := range x.Way() {
				for _, b := range x.Way()[:i] {
					if hinder(all[a], all[b]) {
						t.Fatal(seed, a, b)
					}
				}
			}
		}
		for range 40 {
			for _, n := range x.Way() {
				l, _ := x.Done(n)
				go1(l...)
			}
		}
		if x.Len() != 0 || len(started) != 40 {
			t.Fatal(seed, x.Len())
		}
		for a := range all {
			for b := range all {
				if a < b && hinder(all[a], all[b]) && started[a] > started[b] {
					t.Fatal(seed, a, b)
				}
			}
		}
	}
}
