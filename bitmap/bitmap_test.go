package bitmap_test

import (
	"crypto/sha256"
	"slices"
	"testing"

	"gemel/api"
	"gemel/bitmap"
	"gemel/disk"
)

func made(t *testing.T, blocks int, l ...int) *bitmap.Map {
	t.Helper()
	m, e := bitmap.New(blocks)
	if e != api.OK {
		t.Fatal(e)
	}
	m.Mark(l...)
	return m
}

func plate(t *testing.T, blocks int) *disk.Disk {
	t.Helper()
	d, e := disk.New(blocks)
	if e != api.OK {
		t.Fatal(e)
	}
	return d
}

func marked(m *bitmap.Map) []int { return slices.Collect(m.All()) }

// P6.1: how many blocks a bitmap may have.
func TestNew(t *testing.T) {
	d := plate(t, 1)
	for _, n := range []int{-1, 0, 65, 1 << 62} {
		if m, e := bitmap.New(n); m != nil || e != api.ErrArg {
			t.Error(n, e)
		}
		if m, e := bitmap.Load(d, 0, n); m != nil || e != api.ErrArg {
			t.Error(n, e)
		}
	}
	for _, n := range []int{1, 64} {
		if m := made(t, n); m.Blocks() != n || m.Len() != 0 || m.Set() != 0 {
			t.Error(n)
		}
	}
}

// P6.1: a set's bytes, and a block's set.
func TestBlock(t *testing.T) {
	b := bitmap.Block(1<<63 | 258)
	want := append([]byte("GEBM"), 0x80, 0, 0, 0, 0, 0, 1, 2)
	want = append(want, make([]byte, 248-len(want))...)
	sum := sha256.Sum256(want)
	if string(b[:]) != string(append(want, sum[:8]...)) {
		t.Errorf("%x", b)
	}
	for _, set := range []uint64{0, 1, 1<<64 - 1, 258} {
		if x, e := bitmap.Of(bitmap.Block(set)); x != set || e != api.OK {
			t.Error(x, e)
		}
	}
	for i := range b {
		x := b
		x[i] ^= 8
		if set, e := bitmap.Of(x); set != 0 || e != api.ErrBytes {
			t.Error(i, e)
		}
	}
	x := b
	x[12] = 1
	sum = sha256.Sum256(x[:248])
	copy(x[248:], sum[:8])
	if _, e := bitmap.Of(x); e != api.ErrBytes {
		t.Error("noughts stand behind the set", e)
	}
}

// P6.1: saved, flushed, loaded.
func TestSave(t *testing.T) {
	d := plate(t, 3)
	m := made(t, 8, 0, 7)
	if m.Save(d, 2) != api.OK || len(d.Open()) != 0 {
		t.Error("Save")
	}
	if b, _ := d.Read(2); b != bitmap.Block(0x81) {
		t.Error(b)
	}
	l, e := bitmap.Load(d, 2, 8)
	if e != api.OK || l.Blocks() != 8 || l.Set() != 0x81 {
		t.Error(e)
	}
	if l, e := bitmap.Load(d, 2, 64); e != api.OK || l.Set() != 0x81 {
		t.Error(e)
	}
	if l, e := bitmap.Load(d, 2, 7); l != nil || e != api.ErrBytes {
		t.Error("bits of blocks that there are not", e)
	}
	if l, e := bitmap.Load(d, 1, 8); l != nil || e != api.ErrBytes {
		t.Error(e)
	}
	if one := plate(t, 1); m.Save(one, 0) != api.OK {
		t.Error("a disk of one block")
	}
	full := made(t, 64)
	full.Fill()
	full.Save(d, 0)
	if l, e := bitmap.Load(d, 0, 64); e != api.OK || l.Len() != 64 {
		t.Error(e)
	}
}

// P6.1: the errors, in their order.
func TestErrors(t *testing.T) {
	m := made(t, 8)
	d := plate(t, 2)
	for _, x := range []*disk.Disk{nil, {}} {
		if _, e := bitmap.Load(x, -1, 0); e != api.ErrNil || m.Save(x, -1) != api.ErrNil {
			t.Error(e)
		}
	}
	for _, at := range []int{-1, 2, 1 << 62} {
		if _, e := bitmap.Load(d, at, 8); e != api.ErrArg || m.Save(d, at) != api.ErrArg {
			t.Error(at, e)
		}
	}
	d.Fuse(1)
	if m.Save(d, 0) != api.ErrDead {
		t.Error("ErrDead")
	}
	d.Fail()
	if _, e := bitmap.Load(d, 0, 8); e != api.ErrIO || m.Save(d, 0) != api.ErrIO {
		t.Error(e)
	}
	if _, e := bitmap.Load(d, 2, 8); e != api.ErrArg {
		t.Error(e)
	}
}

// P6.2: marking and wiping tell how many changed.
func TestMark(t *testing.T) {
	m := made(t, 8)
	if n := m.Mark(3, 9, 3); n != 1 || m.Len() != 1 {
		t.Error(n)
	}
	if n := m.Mark(-1, 3, 7, 0, 8, 64, 67, 1<<62); n != 2 || !slices.Equal(marked(m), []int{0, 3, 7}) {
		t.Error(n, marked(m))
	}
	if m.Mark() != 0 || m.Wipe() != 0 {
		t.Error("nothing")
	}
	if n := m.Wipe(3, 3, 4, -1, 64, 7); n != 2 || !slices.Equal(marked(m), []int{0}) {
		t.Error(n, marked(m))
	}
	if m.Join(1<<63 | 1<<8 | 6); m.Set() != 7 {
		t.Error(m.Set())
	}
	if m.Fill(); m.Set() != 255 || m.Len() != 8 {
		t.Error(m.Set())
	}
	full := made(t, 64)
	if full.Fill(); full.Set() != 1<<64-1 || full.Wipe(63) != 1 || full.Len() != 63 {
		t.Error(full.Set())
	}
}

// P6.3: looks.
func TestLooks(t *testing.T) {
	m := made(t, 64, 0, 5, 63)
	for i := -1; i < 66; i++ {
		if m.Has(i) != (i == 0 || i == 5 || i == 63) {
			t.Error(i)
		}
	}
	for _, x := range []struct {
		from, want int
		ok         bool
	}{{-1 << 63, 0, true}, {-1, 0, true}, {0, 0, true}, {1, 5, true}, {5, 5, true}, {6, 63, true}, {63, 63, true}, {64, 0, false}, {1 << 62, 0, false}} {
		if i, ok := m.Next(x.from); i != x.want || ok != x.ok {
			t.Error(x, i, ok)
		}
	}
	if i, ok := made(t, 3).Next(0); i != 0 || ok {
		t.Error(i, ok)
	}
}

// P6.3: All goes over those that were marked when it was called, may be left, and gone through again.
func TestAll(t *testing.T) {
	m := made(t, 10, 9, 2, 4)
	all := m.All()
	m.Mark(3)
	m.Wipe(2)
	for i := range all {
		if i != 2 {
			t.Error(i)
		}
		break
	}
	for range 2 {
		if l := slices.Collect(all); !slices.Equal(l, []int{2, 4, 9}) {
			t.Error(l)
		}
	}
}

// P6.3: a copy goes on apart.
func TestCopy(t *testing.T) {
	m := made(t, 10, 1)
	c := m.Copy()
	c.Mark(2)
	m.Mark(3)
	if c.Set() != 6 || m.Set() != 10 || c.Blocks() != 10 {
		t.Error(c.Set(), m.Set())
	}
}

// P6.1 to P6.3: nil and zero bitmaps.
func TestNil(t *testing.T) {
	d := plate(t, 1)
	for _, m := range []*bitmap.Map{nil, {}} {
		m.Fill()
		m.Join(1)
		i, ok := m.Next(0)
		if m.Save(d, -1) != api.ErrNil || m.Mark(0) != 0 || m.Wipe(0) != 0 || m.Has(0) || i != 0 || ok || m.Len() != 0 || m.Blocks() != 0 || m.Set() != 0 || len(marked(m)) != 0 || m.Copy() != nil {
			t.Error("nil")
		}
	}
}
