package super_test

import (
	"crypto/sha256"
	"encoding/binary"
	"testing"

	"gemel/api"
	"gemel/disk"
	"gemel/super"
)

var line = api.Line{Current: 9, Base: 8, History: [2]uint64{7, 1 << 63}}

func made(t *testing.T, blocks int) *disk.Disk {
	t.Helper()
	d, e := disk.New(blocks)
	if e != api.OK {
		t.Fatal(e)
	}
	return d
}

func put(t *testing.T, d *disk.Disk, at int, s api.Super) {
	t.Helper()
	b, e := super.Block(s)
	if e != api.OK {
		t.Fatal(e)
	}
	d.Write(at, b)
	d.Flush()
}

// P4.1: the bytes of a block, and what it says.
func TestBlock(t *testing.T) {
	s := api.Super{State: api.Outdated, Crashed: true, Line: line, Seq: 258}
	b, e := super.Block(s)
	want := append([]byte("GEML"), 3, 1)
	for _, n := range []uint64{258, 9, 8, 7, 1 << 63} {
		want = binary.BigEndian.AppendUint64(want, n)
	}
	want = append(want, make([]byte, 248-len(want))...)
	sum := sha256.Sum256(want)
	if e != api.OK || string(b[:]) != string(append(want, sum[:8]...)) {
		t.Errorf("%x %v", b, e)
	}
	if x, e := super.Of(b); x != s || e != api.OK {
		t.Error(x, e)
	}
}

// P4.1: what may be known.
func TestMay(t *testing.T) {
	for _, x := range []struct {
		s   api.Super
		may bool
	}{
		{api.Super{State: api.Diskless}, false}, {api.Super{State: api.Inconsistent}, true}, {api.Super{State: api.Outdated}, true}, {api.Super{State: api.UpToDate}, true}, {api.Super{State: 5}, false}, {api.Super{}, false}, {api.Super{State: -1}, false}, {api.Super{State: 258}, false},
		{api.Super{State: 4, Line: api.Line{Current: 5, Base: 5}}, false}, {api.Super{State: 4, Line: api.Line{Current: 5, Base: 6, History: [2]uint64{5, 5}}}, true}, {api.Super{State: 4, Seq: 1<<64 - 1}, true}, {api.Super{State: 4, Line: api.Line{Base: 3}}, true},
	} {
		b, e := super.Block(x.s)
		if super.May(x.s) != x.may || (e == api.OK) != x.may || !x.may && (e != api.ErrArg || b != api.Block{}) {
			t.Error(x, e)
		}
		if s, e := super.Of(b); x.may && (s != x.s || e != api.OK) {
			t.Error(x, s, e)
		}
	}
}

// seal makes the sum of a block right.
func seal(b *api.Block) {
	sum := sha256.Sum256(b[:248])
	copy(b[248:], sum[:8])
}

// P4.1: blocks that are none's.
func TestOf(t *testing.T) {
	good, _ := super.Block(api.Super{State: api.UpToDate, Line: line, Seq: 1})
	for i := range good {
		b := good
		b[i] ^= 64
		if s, e := super.Of(b); e != api.ErrBytes || s != (api.Super{}) {
			t.Error(i, e)
		}
	}
	for i, f := range []func(b *api.Block){
		func(b *api.Block) { b[0] = 'X' }, func(b *api.Block) { b[4] = 1 }, func(b *api.Block) { b[4] = 5 }, func(b *api.Block) { b[5] = 2 }, func(b *api.Block) { b[46] = 1 }, func(b *api.Block) { b[247] = 1 },
		func(b *api.Block) { copy(b[22:30], b[14:22]) },
	} {
		b := good
		f(&b)
		seal(&b)
		if s, e := super.Of(b); e != api.ErrBytes || s != (api.Super{}) {
			t.Error(i, e)
		}
	}
	if _, e := super.Of(api.Block{}); e != api.ErrBytes {
		t.Error(e)
	}
}

// P4.2: what counts of two slots.
func TestLoad(t *testing.T) {
	a, b := api.Super{State: api.UpToDate, Line: line, Seq: 4}, api.Super{State: api.Outdated, Seq: 5}
	d := made(t, 3)
	if s, e := super.Load(d); s != (api.Super{}) || e != api.ErrNone {
		t.Error(s, e)
	}
	put(t, d, 1, b)
	if s, e := super.Load(d); s != b || e != api.OK {
		t.Error(s, e)
	}
	put(t, d, 0, a)
	if s, _ := super.Load(d); s != b {
		t.Error(s)
	}
	a.Seq = 5
	put(t, d, 0, a)
	if s, _ := super.Load(d); s != a {
		t.Error("of equal ones slot 0", s)
	}
	a.Seq = 6
	put(t, d, 0, a)
	if s, _ := super.Load(d); s != a {
		t.Error(s)
	}
}

// P4.2: saving goes to the other slot, one above what counts.
func TestSave(t *testing.T) {
	d := made(t, 2)
	s := api.Super{State: api.UpToDate, Crashed: true, Line: line, Seq: 77}
	for n := uint64(1); n < 6; n++ {
		s.Line.History[0] = n
		got, e := super.Save(d, s)
		want := s
		want.Seq = n
		if got != want || e != api.OK || len(d.Open()) != 0 {
			t.Error(got, e)
		}
		b, _ := d.Read(int(n-1) % 2)
		if x, e := super.Of(b); x != want || e != api.OK {
			t.Error("slot", x, e)
		}
		if x, e := super.Load(d); x != want || e != api.OK {
			t.Error(x, e)
		}
	}
}

// P4.2: Format writes 1, then 0, and flushes.
func TestFormat(t *testing.T) {
	for steps := range 4 {
		d := made(t, 2)
		old := api.Super{State: api.Outdated, Seq: 100}
		put(t, d, 0, old)
		put(t, d, 1, old)
		d.Fuse(steps)
		e := super.Format(d, line, api.Inconsistent)
		a, _ := d.Read(0)
		b, _ := d.Read(1)
		if (e == api.OK) != (steps == 3) || steps < 3 && e != api.ErrDead || (b == api.Block{}) != (steps > 0) || (len(d.Open()) == 0) != (steps == 3 || steps == 0) {
			t.Error(steps, e, d.Open())
		}
		s, _ := super.Of(a)
		if steps < 2 && s != old || steps >= 2 && s != (api.Super{State: api.Inconsistent, Line: line, Seq: 1}) {
			t.Error(steps, s)
		}
	}
	d := made(t, 2)
	super.Format(d, line, api.UpToDate)
	if s, e := super.Save(d, api.Super{State: api.Outdated}); s.Seq != 2 || e != api.OK {
		t.Error(s, e)
	}
}

// P4.2: the errors, in their order; what is refused changes nothing.
func TestErrors(t *testing.T) {
	good, bad := api.Super{State: api.UpToDate}, api.Super{State: api.Diskless}
	for _, d := range []*disk.Disk{nil, {}} {
		_, e := super.Load(d)
		_, f := super.Save(d, bad)
		if e != api.ErrNil || f != api.ErrNil || super.Format(d, line, 0) != api.ErrNil {
			t.Error(e, f)
		}
	}
	d := made(t, 1)
	_, e := super.Load(d)
	_, f := super.Save(d, good)
	if e != api.ErrArg || f != api.ErrArg || super.Format(d, line, api.UpToDate) != api.ErrArg {
		t.Error(e, f)
	}
	d = made(t, 2)
	super.Format(d, line, api.UpToDate)
	was := d.Copy()
	if s, e := super.Save(d, bad); e != api.ErrArg || s != (api.Super{}) || super.Format(d, line, api.Diskless) != api.ErrArg || super.Format(d, api.Line{Current: 1, Base: 1}, api.UpToDate) != api.ErrArg || !d.Same(was) {
		t.Error(s, e)
	}
	d.Fail()
	_, e = super.Load(d)
	_, f = super.Save(d, good)
	if e != api.ErrIO || f != api.ErrIO || super.Format(d, line, api.UpToDate) != api.ErrIO {
		t.Error(e, f)
	}
	if _, e := super.Save(d, bad); e != api.ErrArg {
		t.Error(e)
	}
}

// P4.2: the greatest Seq.
func TestFull(t *testing.T) {
	d := made(t, 2)
	put(t, d, 0, api.Super{State: api.UpToDate, Seq: 1<<62 - 1})
	if s, e := super.Save(d, api.Super{State: api.UpToDate}); s.Seq != 1<<62 || e != api.OK {
		t.Error(s, e)
	}
	was := d.Copy()
	if s, e := super.Save(d, api.Super{State: api.UpToDate}); s != (api.Super{}) || e != api.ErrFull || !d.Same(was) {
		t.Error(s, e)
	}
	put(t, d, 1, api.Super{State: api.UpToDate, Seq: 1<<64 - 1})
	if _, e := super.Save(d, api.Super{State: api.UpToDate}); e != api.ErrFull {
		t.Error(e)
	}
}

// P4.3: wherever the power goes while it is saved, what counts is the old, or the new.
func TestPower(t *testing.T) {
	old, next := api.Super{State: api.UpToDate, Line: line}, api.Super{State: api.Outdated, Crashed: true}
	for saves := 1; saves < 4; saves++ {
		for steps := range 3 {
			for pick := range 2 {
				d := made(t, 2)
				var was api.Super
				for range saves {
					was, _ = super.Save(d, old)
				}
				d.Fuse(steps)
				_, e := super.Save(d, next)
				if (e == api.OK) != (steps == 2) || e != api.OK && e != api.ErrDead {
					t.Error(e)
				}
				d.Crash([]int{pick})
				want := next
				want.Seq = was.Seq + 1
				s, f := super.Load(d)
				if f != api.OK || s != was && s != want || e == api.OK && s != want {
					t.Error(saves, steps, pick, s, f)
				}
			}
		}
	}
}
