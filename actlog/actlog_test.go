package actlog_test

import (
	"crypto/sha256"
	"slices"
	"testing"

	"gemel/actlog"
	"gemel/api"
	"gemel/disk"
)

func made(t *testing.T, blocks int) *disk.Disk {
	t.Helper()
	d, e := disk.New(blocks)
	if e != api.OK {
		t.Fatal(e)
	}
	return d
}

func open(t *testing.T, d *disk.Disk, at, slots, most int) *actlog.Log {
	t.Helper()
	l, e := actlog.Open(d, at, slots, most)
	if e != api.OK {
		t.Fatal(e)
	}
	return l
}

func put(d *disk.Disk, at int, b api.Block) {
	d.Write(at, b)
	d.Flush()
}

func touch(t *testing.T, l *actlog.Log, extent, out int, wrote bool) {
	t.Helper()
	if o, w, e := l.Touch(extent); o != out || w != wrote || e != api.OK {
		t.Error(extent, o, w, e)
	}
}

// P5.4: a transaction's bytes, and what they say.
func TestBlock(t *testing.T) {
	b := actlog.Block(258, 0x8001)
	want := append([]byte("GEAL"), 0, 0, 0, 0, 0, 0, 1, 2, 0x80, 1)
	want = append(want, make([]byte, 248-len(want))...)
	sum := sha256.Sum256(want)
	if string(b[:]) != string(append(want, sum[:8]...)) {
		t.Errorf("%x", b)
	}
	for _, n := range []uint64{0, 1, 258, 1 << 62, 1<<64 - 1} {
		if m, set, e := actlog.Of(actlog.Block(n, 0xfffe)); m != n || set != 0xfffe || e != api.OK {
			t.Error(m, set, e)
		}
	}
	for i := range b {
		x := b
		x[i] ^= 1
		if n, set, e := actlog.Of(x); n != 0 || set != 0 || e != api.ErrBytes {
			t.Error(i, e)
		}
	}
	for _, i := range []int{0, 14, 247} {
		x := b
		x[i] ^= 1
		sum := sha256.Sum256(x[:248])
		copy(x[248:], sum[:8])
		if _, _, e := actlog.Of(x); e != api.ErrBytes {
			t.Error(i, e)
		}
	}
}

// P5.1: numbers that may not be, and blocks that the disk has not.
func TestOpenErrors(t *testing.T) {
	for _, d := range []*disk.Disk{nil, {}} {
		if l, e := actlog.Open(d, -1, 0, 0); l != nil || e != api.ErrNil || actlog.Format(d, -1, 0) != api.ErrNil {
			t.Error(e)
		}
	}
	d := made(t, 20)
	for _, x := range [][4]int{{0, 1, 1, 0}, {0, 17, 1, 0}, {-1, 4, 1, 0}, {17, 4, 1, 0}, {1 << 62, 4, 1, 0}, {0, 1 << 62, 1, 0}, {0, 4, 0, 1}, {0, 4, 17, 1}, {0, 4, -1, 1}, {16, 4, 1, 1}, {0, 2, 16, 1}, {4, 16, 1, 1}} {
		l, e := actlog.Open(d, x[0], x[1], x[2])
		ok := x[0] == 16 || x[2] == 16 || x[0] == 4
		if ok != (e == api.OK) || ok != (l != nil) || !ok && e != api.ErrArg {
			t.Error(x, e)
		}
		was := d.Copy()
		d.Write(19, api.Block{1})
		was.Write(19, api.Block{1})
		if e := actlog.Format(d, x[0], x[1]); (e == api.OK) != (x[3] == 1) || e != api.OK && !d.Same(was) {
			t.Error(x, e)
		}
	}
	d.Fail()
	if l, e := actlog.Open(d, 0, 2, 1); l != nil || e != api.ErrIO || actlog.Format(d, 0, 2) != api.ErrIO {
		t.Error(e)
	}
	if _, e := actlog.Open(d, 0, 1, 1); e != api.ErrArg {
		t.Error(e)
	}
}

// P5.1: what the log says: the greatest number in its own slot, and not 0.
func TestOpenReads(t *testing.T) {
	d := made(t, 9)
	l := open(t, d, 5, 4, 3)
	if l.Number() != 0 || len(l.Hot()) != 0 {
		t.Error("an empty log")
	}
	put(d, 5, actlog.Block(0, 0xffff))
	if l = open(t, d, 5, 4, 3); l.Number() != 0 || len(l.Hot()) != 0 {
		t.Error("a number of 0 is none")
	}
	put(d, 5, actlog.Block(9, 1)) // 9 modulo 4 is 1: it stands in another slot
	put(d, 6, actlog.Block(5, 0b101000))
	put(d, 8, actlog.Block(3, 2))
	if l = open(t, d, 5, 4, 3); l.Number() != 5 || !slices.Equal(l.Hot(), []int{3, 5}) {
		t.Error(l.Number(), l.Hot())
	}
	put(d, 7, actlog.Block(6, 0x8421))
	was := d.Copy()
	if l = open(t, d, 5, 4, 3); l.Number() != 6 || !slices.Equal(l.Hot(), []int{0, 5, 10}) || !d.Same(was) {
		t.Error("the least ones stay", l.Number(), l.Hot())
	}
	touch(t, l, 15, 0, true)
	if n, set, e := actlog.Of(read(d, 8)); n != 7 || set != 1<<5|1<<10|1<<15 || e != api.OK {
		t.Error(n, set, e)
	}
}

func read(d *disk.Disk, i int) api.Block {
	b, _ := d.Read(i)
	return b
}

// P5.2, P5.3: touching, in order; what is hot already is last, and nothing is written.
func TestTouch(t *testing.T) {
	d := made(t, 4)
	l := open(t, d, 1, 3, 2)
	if i, ok := l.First(); i != 0 || ok {
		t.Error("there is room")
	}
	touch(t, l, 3, -1, true)
	touch(t, l, 5, -1, true)
	if i, ok := l.First(); i != 3 || !ok {
		t.Error(i, ok)
	}
	was := d.Copy()
	d.Fuse(0)
	touch(t, l, 3, -1, false)
	if !d.Same(was) || d.Dead() || l.Number() != 2 || !slices.Equal(l.Hot(), []int{5, 3}) {
		t.Error(l.Hot())
	}
	d.Crash(nil)
	touch(t, l, 7, 5, true)
	if l.Number() != 3 || !slices.Equal(l.Hot(), []int{3, 7}) || l.Has(5) || !l.Has(7) || l.Has(-1) || l.Has(16) || len(d.Open()) != 0 {
		t.Error(l.Number(), l.Hot())
	}
	for i, want := range []uint64{3, 1, 2} {
		if n, _, e := actlog.Of(read(d, 1+i)); n != want || e != api.OK {
			t.Error(i, n, e)
		}
	}
	h := l.Hot()
	h[0] = 9
	if !slices.Equal(l.Hot(), []int{3, 7}) {
		t.Error("what is answered is the caller's")
	}
	for _, x := range []int{-1, 16, 1 << 62} {
		if o, w, e := l.Touch(x); o != 0 || w || e != api.ErrArg {
			t.Error(x, o, w, e)
		}
	}
	touch(t, l, 0, 3, true)
	touch(t, l, 15, 7, true)
}

// P5.2: Clear writes a transaction, if an extent was hot.
func TestClear(t *testing.T) {
	d := made(t, 2)
	l := open(t, d, 0, 2, 2)
	d.Fuse(0)
	if l.Clear() != api.OK || l.Number() != 0 || d.Dead() {
		t.Error("nothing is written")
	}
	d.Crash(nil)
	touch(t, l, 4, -1, true)
	if l.Clear() != api.OK || l.Number() != 2 || len(l.Hot()) != 0 {
		t.Error(l.Number())
	}
	if n, set, e := actlog.Of(read(d, 0)); n != 2 || set != 0 || e != api.OK {
		t.Error(n, set, e)
	}
}

// P5.2: what the disk refuses leaves what is hot, and the number.
func TestDiskErrors(t *testing.T) {
	for steps := range 2 {
		for _, clear := range []bool{false, true} {
			d := made(t, 2)
			l := open(t, d, 0, 2, 1)
			touch(t, l, 4, -1, true)
			d.Fuse(steps)
			var e api.Errno
			if clear {
				e = l.Clear()
			} else {
				var o int
				var w bool
				if o, w, e = l.Touch(5); o != 0 || w {
					t.Error(o, w)
				}
			}
			if e != api.ErrDead || l.Number() != 1 || !slices.Equal(l.Hot(), []int{4}) {
				t.Error(steps, clear, e, l.Hot())
			}
			touch(t, l, 4, -1, false)
		}
	}
}

// P5.2: the greatest number.
func TestFull(t *testing.T) {
	d := made(t, 2)
	put(d, 1, actlog.Block(1<<62-1, 2))
	l := open(t, d, 0, 2, 2)
	touch(t, l, 4, -1, true)
	if l.Number() != 1<<62 {
		t.Error(l.Number())
	}
	d.Fail()
	if o, w, e := l.Touch(5); o != 0 || w || e != api.ErrFull || l.Clear() != api.ErrFull {
		t.Error("ErrFull is ahead of the disk's", e)
	}
	touch(t, l, 1, -1, false)
	if !slices.Equal(l.Hot(), []int{4, 1}) {
		t.Error(l.Hot())
	}
	d = made(t, 2)
	put(d, 1, actlog.Block(1<<64-1, 2))
	l = open(t, d, 0, 2, 2)
	if _, _, e := l.Touch(5); e != api.ErrFull || l.Number() != 1<<64-1 {
		t.Error(e)
	}
	put(d, 1, actlog.Block(1<<64-1, 0))
	if l = open(t, d, 0, 2, 2); l.Clear() != api.OK {
		t.Error("nothing is written")
	}
}

// P5.1: Format: noughts, from at on, flushed.
func TestFormat(t *testing.T) {
	d := made(t, 6)
	for i := range 6 {
		put(d, i, api.Block{9})
	}
	if actlog.Format(d, 1, 3) != api.OK || len(d.Open()) != 0 {
		t.Error("Format")
	}
	for i := range 6 {
		if (read(d, i) == api.Block{}) != (i >= 1 && i < 4) {
			t.Error(i)
		}
	}
	d.Fuse(2)
	if actlog.Format(d, 3, 3) != api.ErrDead || read(d, 4) != (api.Block{}) || read(d, 5) != (api.Block{9}) {
		t.Error("in order")
	}
}

// P5.2, P5.3: nil and zero logs.
func TestNil(t *testing.T) {
	for _, l := range []*actlog.Log{nil, {}} {
		out, wrote, e := l.Touch(-1)
		i, ok := l.First()
		if out != 0 || wrote || e != api.ErrNil || l.Clear() != api.ErrNil || len(l.Hot()) != 0 || l.Has(0) || l.Number() != 0 || i != 0 || ok {
			t.Error(e)
		}
	}
}

// P5.5: wherever the power goes, what is opened says the last transaction that was answered, or the one on its way.
func TestPower(t *testing.T) {
	for steps := range 13 {
		for pick := range 2 {
			d := made(t, 4)
			l := open(t, d, 0, 4, 2)
			sets := [][]int{nil}
			d.Fuse(steps)
			last, tried := 0, 0
			for _, x := range []int{3, 5, 3, 7, 1, 0} {
				_, wrote, e := l.Touch(x)
				if e != api.OK {
					tried = len(sets)
					break
				}
				if wrote {
					h := l.Hot()
					slices.Sort(h)
					sets = append(sets, h)
					last = len(sets) - 1
				}
			}
			d.Crash([]int{pick})
			m := open(t, d, 0, 4, 2)
			n := int(m.Number())
			if n != last && n != tried || n == last && !slices.Equal(m.Hot(), sets[n]) {
				t.Error(steps, pick, n, m.Hot(), sets)
			}
		}
	}
}
