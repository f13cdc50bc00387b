package disk_test

import (
	"slices"
	"testing"

	"gemel/api"
	"gemel/disk"
)

func of(x byte) api.Block { return api.Block{x} }

func made(t *testing.T, blocks int) *disk.Disk {
	t.Helper()
	d, e := disk.New(blocks)
	if e != api.OK {
		t.Fatal(e)
	}
	return d
}

func reads(t *testing.T, d *disk.Disk, i int, want byte) {
	t.Helper()
	if b, e := d.Read(i); b != of(want) || e != api.OK {
		t.Error(i, b[0], e)
	}
}

// P3.1: how many blocks a disk may have, and what it has at first.
func TestNew(t *testing.T) {
	for _, n := range []int{-1 << 63, -1, 0, 1001, 1 << 62} {
		if d, e := disk.New(n); d != nil || e != api.ErrArg {
			t.Error(n, e)
		}
	}
	for _, n := range []int{1, 1000} {
		d := made(t, n)
		if d.Blocks() != n || len(d.Open()) != 0 || d.Dead() || d.Failed() {
			t.Error(n)
		}
		reads(t, d, n-1, 0)
	}
}

// P3.1: what is read is what was written last; blocks that there are not are refused.
func TestReadWrite(t *testing.T) {
	d := made(t, 3)
	for _, i := range []int{-1, 3, 1 << 62} {
		if b, e := d.Read(i); b != of(0) || e != api.ErrArg {
			t.Error(i, e)
		}
		if d.Write(i, of(1)) != api.ErrArg {
			t.Error(i)
		}
	}
	d.Write(1, of(5))
	reads(t, d, 1, 5)
	d.Write(1, of(6))
	reads(t, d, 1, 6)
	if d.Flush() != api.OK {
		t.Error("Flush")
	}
	reads(t, d, 1, 6)
	reads(t, d, 0, 0)
	reads(t, d, 2, 0)
}

// P3.1 to P3.3: nil and zero disks.
func TestNil(t *testing.T) {
	for _, d := range []*disk.Disk{nil, {}} {
		if _, e := d.Read(-1); e != api.ErrNil {
			t.Error(e)
		}
		for i, e := range []api.Errno{d.Write(0, of(1)), d.Flush(), d.Fuse(-1), d.Crash(nil), d.Fail(), d.Blank()} {
			if e != api.ErrNil {
				t.Error(i, e)
			}
		}
		if d.Blocks() != 0 || d.Dead() || d.Failed() || len(d.Open()) != 0 || d.Copy() != nil || !d.Same(nil) || !d.Same(&disk.Disk{}) || d.Same(made(t, 1)) || made(t, 1).Same(d) {
			t.Error("nil")
		}
	}
}

// P3.2: each Write and each Flush is a step; what is refused otherwise is none.
func TestFuse(t *testing.T) {
	d := made(t, 2)
	if d.Fuse(-1) != api.ErrArg || d.Fuse(3) != api.OK {
		t.Error("Fuse")
	}
	d.Write(7, of(1))
	d.Read(0)
	if d.Write(0, of(1)) != api.OK || d.Flush() != api.OK || d.Write(1, of(2)) != api.OK || d.Dead() {
		t.Error("three steps are done")
	}
	if d.Flush() != api.ErrDead || !d.Dead() || d.Write(0, of(9)) != api.ErrDead || d.Write(9, of(9)) != api.ErrArg || d.Flush() != api.ErrDead {
		t.Error("the fourth one is not")
	}
	reads(t, d, 0, 1)
	reads(t, d, 1, 2)
	if d.Fuse(5) != api.OK || !d.Dead() || d.Write(0, of(9)) != api.ErrDead {
		t.Error("a dead disk stays dead")
	}
	if !slices.Equal(d.Open(), []int{1}) {
		t.Error(d.Open())
	}
	d.Crash(nil)
	if d.Dead() || d.Write(0, of(3)) != api.OK || d.Flush() != api.OK {
		t.Error("a loss of power ends it")
	}
	d.Fuse(1)
	d.Crash(nil)
	if d.Flush() != api.OK || d.Flush() != api.OK {
		t.Error("there is no fuse behind a loss of power")
	}
	d.Fuse(0)
	if d.Dead() || d.Flush() != api.ErrDead || !d.Dead() {
		t.Error("a fuse of no steps")
	}
}

// P3.2: of an open block the version at the place of its pick is what lasts.
func TestCrash(t *testing.T) {
	for _, x := range []struct {
		pick int
		want byte
	}{{0, 1}, {1, 2}, {2, 2}, {3, 4}, {4, 1}, {7, 4}, {-1, 4}, {-4, 1}, {-1 << 63, 1}, {1<<63 - 1, 4}} {
		d := made(t, 4)
		d.Write(3, of(1))
		d.Flush()
		d.Write(3, of(2))
		d.Write(3, of(2))
		d.Write(3, of(4))
		picks := []int{x.pick}
		if d.Crash(picks) != api.OK || picks[0] != x.pick || len(d.Open()) != 0 {
			t.Error("Crash")
		}
		reads(t, d, 3, x.want)
		d.Crash([]int{1})
		reads(t, d, 3, x.want)
	}
}

// P3.2: the open blocks are gone over rising; where there is no pick it is 0.
func TestCrashOrder(t *testing.T) {
	d := made(t, 9)
	for _, i := range []int{8, 2, 5} {
		d.Write(i, of(byte(i)))
	}
	if !slices.Equal(d.Open(), []int{2, 5, 8}) {
		t.Error(d.Open())
	}
	d.Crash([]int{0, 1})
	reads(t, d, 2, 0)
	reads(t, d, 5, 5)
	reads(t, d, 8, 0)
}

// P3.3: a disk that failed, and a blank one in its place.
func TestFail(t *testing.T) {
	d := made(t, 2)
	d.Write(0, of(1))
	d.Flush()
	d.Write(1, of(2))
	if d.Fail() != api.OK || !d.Failed() {
		t.Error("Fail")
	}
	if b, e := d.Read(0); b != of(0) || e != api.ErrIO {
		t.Error(e)
	}
	if _, e := d.Read(2); e != api.ErrArg || d.Write(2, of(0)) != api.ErrArg {
		t.Error("ErrArg is ahead of ErrIO")
	}
	if d.Fuse(0) != api.OK || d.Write(0, of(1)) != api.ErrIO || d.Flush() != api.ErrIO || d.Dead() {
		t.Error("what is refused by ErrIO is no step")
	}
	if !slices.Equal(d.Open(), []int{1}) {
		t.Error("what is open stays so")
	}
	if d.Crash([]int{1}) != api.OK || !d.Failed() || len(d.Open()) != 0 {
		t.Error("it stays failed behind a loss of power")
	}
	d.Fuse(0)
	if d.Blank() != api.OK || d.Failed() || d.Dead() || d.Blocks() != 2 || d.Flush() != api.OK || len(d.Open()) != 0 {
		t.Error("Blank")
	}
	reads(t, d, 0, 0)
	reads(t, d, 1, 0)
}

// P3.3: a dead disk that failed tells ErrIO, and a blank one is not dead.
func TestDeadAndFailed(t *testing.T) {
	d := made(t, 1)
	d.Fuse(0)
	d.Flush()
	d.Fail()
	if !d.Dead() || d.Flush() != api.ErrIO {
		t.Error("ErrIO is ahead of ErrDead")
	}
	d.Blank()
	if d.Dead() || d.Flush() != api.OK {
		t.Error("a blank one is not dead")
	}
}

// P3.3: a copy goes on apart, with its fuse, and what is open.
func TestCopy(t *testing.T) {
	d := made(t, 2)
	d.Write(0, of(1))
	d.Fuse(1)
	c := d.Copy()
	if !d.Same(c) || !c.Same(d) || !slices.Equal(c.Open(), []int{0}) {
		t.Error("Copy")
	}
	c.Write(0, of(2))
	reads(t, d, 0, 1)
	if c.Same(d) || c.Flush() != api.ErrDead || d.Dead() || d.Flush() != api.OK {
		t.Error("it goes on apart")
	}
	c.Crash([]int{1})
	if reads(t, c, 0, 1); !c.Same(d) {
		t.Error("the copy has the versions")
	}
}

// P3.3: what Same looks at.
func TestSame(t *testing.T) {
	a, b := made(t, 2), made(t, 2)
	if !a.Same(a) || !a.Same(b) || a.Same(made(t, 3)) {
		t.Error("equal ones")
	}
	a.Write(1, of(1))
	if a.Same(b) {
		t.Error("unlike ones are read")
	}
	b.Write(1, of(1))
	if !a.Same(b) {
		t.Error("equal ones")
	}
	if b.Flush(); a.Same(b) {
		t.Error("unlike ones last")
	}
	if a.Flush(); !a.Same(b) {
		t.Error("equal ones")
	}
	a.Fuse(0)
	if a.Flush(); !a.Same(b) {
		t.Error("a fuse is not asked")
	}
	if a.Fail(); a.Same(b) {
		t.Error("one failed")
	}
	if b.Fail(); !a.Same(b) {
		t.Error("both failed")
	}
	c := made(t, 2)
	if c.Fail(); a.Same(c) {
		t.Error("what would be read is not the same")
	}
}

// P3.4: what was flushed lasts, whatever the picks are; what was not is one of its versions.
func TestLasts(t *testing.T) {
	for picks := range 27 {
		d := made(t, 3)
		for i := range 3 {
			d.Write(i, of(10))
		}
		d.Flush()
		for i := range 3 {
			d.Write(i, of(11))
			d.Write(i, of(12))
		}
		l := []int{picks % 3, picks / 3 % 3, picks / 9}
		d.Crash(l)
		for i := range 3 {
			reads(t, d, i, byte(10+l[i]))
		}
	}
}

// P3.3: what a copy settles is its own.
func TestCopySettles(t *testing.T) {
	d := made(t, 1)
	c := d.Copy()
	c.Write(0, of(7))
	c.Flush()
	reads(t, d, 0, 0)
	d.Crash(nil)
	reads(t, d, 0, 0)
	reads(t, c, 0, 7)
}
