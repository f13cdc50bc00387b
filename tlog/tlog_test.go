package tlog_test

import (
	"slices"
	"testing"

	"gemel/api"
	"gemel/tlog"
)

func made(t *testing.T, cap int) *tlog.Log {
	t.Helper()
	l, e := tlog.New(cap)
	if e != api.OK {
		t.Fatal(e)
	}
	return l
}

func entry(num uint64, block int, epoch uint64, got bool) api.Entry {
	return api.Entry{Num: num, Block: block, Data: api.Block{byte(num)}, Epoch: epoch, Got: got}
}

func add(t *testing.T, l *tlog.Log, num uint64, block int) {
	t.Helper()
	if e := l.Add(num, block, api.Block{byte(num)}); e != api.OK {
		t.Error(num, e)
	}
}

func has(t *testing.T, l *tlog.Log, want ...api.Entry) {
	t.Helper()
	if got := slices.Collect(l.All()); !slices.Equal(got, want) || l.Len() != len(want) {
		t.Error(len(got), l.Len())
	}
}

// P14.1: caps.
func TestNew(t *testing.T) {
	for _, n := range []int{-1, 0, 1001, 1 << 62} {
		if l, e := tlog.New(n); l != nil || e != api.ErrArg {
			t.Error(n, e)
		}
	}
	for _, n := range []int{1, 1000} {
		if l := made(t, n); l.Epoch() != 1 || l.Len() != 0 || l.Full() || l.Blocks() != 0 {
			t.Error(n)
		}
	}
}

// P14.1: a write is sent, got, written.
func TestWrites(t *testing.T) {
	l := made(t, 2)
	add(t, l, 9, 5)
	add(t, l, 3, 0)
	add(t, l, 7, 63)
	has(t, l, entry(9, 5, 1, false), entry(3, 0, 1, false), entry(7, 63, 1, false))
	for _, b := range []int{-1, 64, 1 << 62} {
		if l.Add(9, b, api.Block{}) != api.ErrArg {
			t.Error(b)
		}
	}
	for _, n := range []uint64{9, 3, 7} {
		if l.Add(n, 1, api.Block{}) != api.ErrExists {
			t.Error(n)
		}
		if x, ok := l.Has(n); !ok || x.Num != n {
			t.Error(n, x)
		}
	}
	if l.Got(4) != api.ErrNone {
		t.Error("errors")
	}
	if x, e := l.Written(4); x != (api.Entry{}) || e != api.ErrNone {
		t.Error(x, e)
	}
	if l.Got(3) != api.OK || l.Got(3) != api.OK {
		t.Error("Got")
	}
	has(t, l, entry(9, 5, 1, false), entry(3, 0, 1, true), entry(7, 63, 1, false))
	if x, ok := l.Has(3); !ok || x != entry(3, 0, 1, true) {
		t.Error(x, ok)
	}
	if x, e := l.Written(3); x != entry(3, 0, 1, true) || e != api.OK {
		t.Error(x, e)
	}
	if x, e := l.Written(9); x != entry(9, 5, 1, false) || e != api.OK {
		t.Error("one that is not got may be written", e)
	}
	has(t, l, entry(7, 63, 1, false))
	if x, ok := l.Has(3); ok || x != (api.Entry{}) || l.Got(3) != api.ErrNone {
		t.Error("it is gone")
	}
	add(t, l, 3, 1)
	has(t, l, entry(7, 63, 1, false), entry(3, 1, 1, false))
}

// P14.2: epochs.
func TestBarrier(t *testing.T) {
	l := made(t, 9)
	if l.Barrier() != 1 || l.Epoch() != 2 {
		t.Error("Barrier")
	}
	add(t, l, 1, 0)
	add(t, l, 2, 0)
	l.Barrier()
	add(t, l, 3, 0)
	has(t, l, entry(1, 0, 2, false), entry(2, 0, 2, false), entry(3, 0, 3, false))
	upto := func(want ...bool) {
		t.Helper()
		for i, w := range want {
			if l.Upto(uint64(i)) != w {
				t.Error(i)
			}
		}
	}
	upto(true, true, false, false, false)
	l.Written(1)
	upto(true, true, false, false)
	l.Got(2)
	upto(true, true, false, false)
	l.Written(2)
	upto(true, true, true, false, false)
	l.Written(3)
	upto(true, true, true, true, true)
}

// P14.2: Clear: what was there; the open epoch stays.
func TestClear(t *testing.T) {
	l := made(t, 1)
	l.Barrier()
	add(t, l, 1, 4)
	add(t, l, 2, 5)
	l.Got(1)
	if was := l.Clear(); !slices.Equal(was, []api.Entry{entry(1, 4, 2, true), entry(2, 5, 2, false)}) {
		t.Error(len(was))
	}
	if l.Len() != 0 || l.Epoch() != 2 || l.Full() || !l.Upto(9) || l.Blocks() != 0 || len(l.Clear()) != 0 {
		t.Error("Clear")
	}
	if _, ok := l.Has(1); ok {
		t.Error("it is gone")
	}
	add(t, l, 1, 4)
}

// P14.3: Full counts those that are not got; a write comes in all the same.
func TestFull(t *testing.T) {
	l := made(t, 2)
	full := func(want bool) {
		t.Helper()
		if l.Full() != want {
			t.Error(want)
		}
	}
	add(t, l, 1, 0)
	full(false)
	add(t, l, 2, 0)
	full(true)
	add(t, l, 3, 0)
	full(true)
	l.Got(1)
	full(true)
	l.Got(1)
	full(true)
	l.Written(1)
	full(true)
	l.Written(3)
	full(false)
}

// P14.3: blocks are a set.
func TestBlocks(t *testing.T) {
	l := made(t, 9)
	for i, b := range []int{0, 63, 5, 5} {
		add(t, l, uint64(i), b)
	}
	if l.Blocks() != 1|1<<63|1<<5 {
		t.Error(l.Blocks())
	}
	if l.Written(2); l.Blocks() != 1|1<<63|1<<5 {
		t.Error("another write is of the block still")
	}
	if l.Written(3); l.Blocks() != 1|1<<63 {
		t.Error(l.Blocks())
	}
}

// P14.3: All goes over the writes as they were, may be left, and gone through again; a copy goes on apart.
func TestAllCopy(t *testing.T) {
	l := made(t, 9)
	add(t, l, 1, 0)
	add(t, l, 2, 0)
	all, c := l.All(), l.Copy()
	l.Got(2)
	l.Written(1)
	add(t, l, 3, 0)
	for x := range all {
		if x.Num != 1 {
			t.Error(x.Num)
		}
		break
	}
	for range 2 {
		if got := slices.Collect(all); !slices.Equal(got, []api.Entry{entry(1, 0, 1, false), entry(2, 0, 1, false)}) {
			t.Error(len(got))
		}
	}
	has(t, c, entry(1, 0, 1, false), entry(2, 0, 1, false))
	add(t, c, 3, 7)
	c.Barrier()
	if l.Epoch() != 1 || c.Epoch() != 2 {
		t.Error("epochs")
	}
	has(t, l, entry(2, 0, 1, true), entry(3, 0, 1, false))
}

// P14.1 to P14.3: nil and zero logs.
func TestNil(t *testing.T) {
	for _, l := range []*tlog.Log{nil, {}} {
		x, e := l.Written(1)
		y, ok := l.Has(1)
		if l.Add(1, -1, api.Block{}) != api.ErrNil || l.Got(1) != api.ErrNil || x != (api.Entry{}) || e != api.ErrNil || l.Barrier() != 0 || !l.Upto(5) || y != (api.Entry{}) || ok || l.Blocks() != 0 || l.Full() || l.Epoch() != 0 || l.Len() != 0 || len(l.Clear()) != 0 || l.Copy() != nil || len(slices.Collect(l.All())) != 0 {
			t.Error("nil")
		}
	}
}
