package store_test

import (
	"math/rand"
	"slices"
	"testing"

	"gemel/actlog"
	"gemel/api"
	"gemel/bitmap"
	"gemel/disk"
	"gemel/reserve"
	"gemel/store"
	"gemel/super"
)

var line = api.Line{Current: 9, Base: 8, History: [2]uint64{7, 6}}

func of(x byte) api.Block { return api.Block{x} }

func plate(t *testing.T, blocks int) *disk.Disk {
	t.Helper()
	d, e := disk.New(blocks)
	if e != api.OK {
		t.Fatal(e)
	}
	return d
}

func formatted(t *testing.T, blocks int) *disk.Disk {
	t.Helper()
	d := plate(t, store.Size(blocks))
	if e := store.Format(d, blocks, line, api.UpToDate); e != api.OK {
		t.Fatal(e)
	}
	return d
}

func attached(t *testing.T, d *disk.Disk, hot int) *store.Store {
	t.Helper()
	s, e := store.Attach(d, d.Blocks()-9, hot)
	if e != api.OK {
		t.Fatal(e)
	}
	return s
}

func marked(s *store.Store) []int { return slices.Collect(s.Map().All()) }

func isOK(t *testing.T, l ...api.Errno) {
	t.Helper()
	for i, e := range l {
		if e != api.OK {
			t.Error(i, e)
		}
	}
}

// P15.1: sizes.
func TestSize(t *testing.T) {
	for n, want := range map[int]int{-1: 0, 0: 0, 1: 10, 64: 73, 65: 0, 1 << 62: 0} {
		if store.Size(n) != want {
			t.Error(n)
		}
	}
}

// P15.1: a formatted disk has no more than it should, and its blocks as they are.
func TestFormat(t *testing.T) {
	d := plate(t, 17)
	for i := range 17 {
		d.Write(i, of(3))
	}
	d.Flush()
	isOK(t, store.Format(d, 8, line, api.Outdated))
	if len(d.Open()) != 0 {
		t.Error("flushed")
	}
	s := attached(t, d, 4)
	if s.Super() != (api.Super{State: api.Outdated, Line: line, Seq: 1}) || s.Table() != (api.Reserve{}) || s.Map().Len() != 0 || len(s.Hot()) != 0 || s.Blocks() != 8 || s.Broken() != api.OK {
		t.Error(s.Super(), s.Table(), marked(s), s.Hot())
	}
	for i := range 8 {
		if b, e := s.Read(i); b != of(3) || e != api.OK {
			t.Error(i, e)
		}
	}
}

// P15.1: Format's order: the log, the bitmap, the table, what the node knows.
func TestFormatOrder(t *testing.T) {
	places := []int{5, 6, 7, 8, -1, 4, -1, 3, 2, -1, 1, 0, -1}
	for steps := range len(places) + 1 {
		d := plate(t, 10)
		for i := range 10 {
			d.Write(i, of(3))
		}
		d.Flush()
		d.Fuse(steps)
		e := store.Format(d, 1, line, api.UpToDate)
		if (e == api.OK) != (steps == len(places)) || e != api.OK && e != api.ErrDead {
			t.Error(steps, e)
		}
		for i := range 10 {
			b, _ := d.Read(i)
			if at := slices.Index(places, i); (b != of(3)) != (at >= 0 && at < steps) {
				t.Error(steps, i)
			}
		}
	}
}

// P15.1: what Format and Attach refuse, in order.
func TestRefused(t *testing.T) {
	for _, d := range []*disk.Disk{nil, {}} {
		if s, e := store.Attach(d, 0, 0); s != nil || e != api.ErrNil || store.Format(d, 0, line, 0) != api.ErrNil {
			t.Error(e)
		}
	}
	d := formatted(t, 8)
	was := d.Copy()
	for _, n := range []int{-1, 0, 7, 9, 65, 1 << 62} {
		if s, e := store.Attach(d, n, 4); s != nil || e != api.ErrArg || store.Format(d, n, line, api.UpToDate) != api.ErrArg {
			t.Error(n, e)
		}
	}
	for _, n := range []int{-1, 0, 17, 1 << 62} {
		if s, e := store.Attach(d, 8, n); s != nil || e != api.ErrArg {
			t.Error(n, e)
		}
	}
	if store.Format(d, 8, line, api.Diskless) != api.ErrArg || store.Format(d, 8, api.Line{Current: 1, Base: 1}, api.UpToDate) != api.ErrArg || !d.Same(was) {
		t.Error("what may not be known")
	}
	for _, n := range []int{0, 17} {
		if s, e := store.Attach(plate(t, 17), 8, n); s != nil || e != api.ErrArg {
			t.Error("ErrArg is ahead of ErrNone", e)
		}
	}
	if s, e := store.Attach(d, 8, 16); s == nil || e != api.OK {
		t.Error(e)
	}
	for _, at := range []int{0, 2} {
		x := d.Copy()
		x.Write(at, of(0))
		x.Write(at+1, of(0))
		if s, e := store.Attach(x, 8, 4); s != nil || e != api.ErrNone {
			t.Error(at, e)
		}
	}
	d.Fail()
	if s, e := store.Attach(d, 8, 4); s != nil || e != api.ErrIO || store.Format(d, 8, line, api.UpToDate) != api.ErrIO {
		t.Error(e)
	}
}

// P15.1: a bitmap that is none's marks all; hot extents are marked, if it is Crashed, and the bitmap is saved.
func TestAttach(t *testing.T) {
	d := formatted(t, 10)
	d.Write(4, of(1))
	s := attached(t, d, 4)
	if s.Map().Len() != 10 {
		t.Error(marked(s))
	}
	if b, _ := d.Read(4); b != of(1) {
		t.Error("nothing is saved")
	}
	d = formatted(t, 10)
	d.Write(6, actlog.Block(1, 0b110)) // the blocks 4 to 9
	d.Write(4, bitmap.Block(1))
	was := d.Copy()
	if s = attached(t, d, 4); !slices.Equal(marked(s), []int{0}) || !slices.Equal(s.Hot(), []int{1, 2}) || !d.Same(was) {
		t.Error(marked(s), s.Hot())
	}
	super.Save(d, api.Super{State: api.UpToDate, Crashed: true})
	one := d.Copy()
	if s = attached(t, d, 4); !slices.Equal(marked(s), []int{0, 4, 5, 6, 7, 8, 9}) {
		t.Error(marked(s))
	}
	if b, _ := d.Read(4); b != bitmap.Block(0b1111110001) || len(d.Open()) != 0 {
		t.Error("saved")
	}
	if s = attached(t, one, 1); !slices.Equal(marked(s), []int{0, 4, 5, 6, 7}) || !slices.Equal(s.Hot(), []int{1}) {
		t.Error("of more than hot the first ones alone", marked(s), s.Hot())
	}
	super.Save(d, api.Super{State: api.UpToDate, Crashed: true})
	d.Fuse(1)
	if s, e := store.Attach(d, 10, 4); s != nil || e != api.ErrDead {
		t.Error(e)
	}
}

// P15.2: reading and writing; not hot: no extent is touched.
func TestReadWrite(t *testing.T) {
	d := formatted(t, 10)
	s := attached(t, d, 2)
	for _, i := range []int{-1, 10, 1 << 62} {
		if b, e := s.Read(i); b != of(0) || e != api.ErrRange || s.Write(i, of(1), true) != api.ErrRange {
			t.Error(i, e)
		}
	}
	isOK(t, s.Write(9, of(5), false))
	if b, e := s.Read(9); b != of(5) || e != api.OK || len(s.Hot()) != 0 || len(d.Open()) != 0 || s.Map().Len() != 0 {
		t.Error(e)
	}
	if b, _ := d.Read(18); b != of(5) {
		t.Error("its place")
	}
	isOK(t, s.Write(9, of(6), true), s.Write(0, of(7), true), s.Write(8, of(8), true))
	if !slices.Equal(s.Hot(), []int{0, 2}) || s.Map().Len() != 0 {
		t.Error(s.Hot())
	}
	l, _ := actlog.Open(d, 5, 4, 2)
	if l.Number() != 2 || !slices.Equal(l.Hot(), []int{0, 2}) {
		t.Error(l.Number(), l.Hot())
	}
}

// P15.2: the bitmap is saved ahead of an extent that goes out, the extent is touched ahead of the block.
func TestWriteOrder(t *testing.T) {
	for steps := range 7 {
		d := formatted(t, 12)
		s := attached(t, d, 1)
		isOK(t, s.Write(0, of(1), true))
		s.Map().Mark(3)
		d.Fuse(steps)
		e := s.Write(5, of(2), true)
		if (e == api.OK) != (steps == 6) || e != api.OK && (e != api.ErrDead || s.Broken() != api.ErrDead) {
			t.Error(steps, e)
		}
		m, _ := d.Read(4)
		l, _ := d.Read(7)
		b, _ := d.Read(14)
		if (m == bitmap.Block(8)) != (steps > 0) || (l == actlog.Block(2, 2)) != (steps > 2) || (b == of(2)) != (steps > 4) {
			t.Error(steps)
		}
		if hot := s.Hot(); steps < 4 && !slices.Equal(hot, []int{0}) || steps >= 4 && !slices.Equal(hot, []int{1}) {
			t.Error(steps, hot)
		}
	}
}

// P15.3: Set, SaveMap, SaveTable.
func TestSave(t *testing.T) {
	d := formatted(t, 8)
	s := attached(t, d, 2)
	x := api.Super{State: api.Inconsistent, Crashed: true, Line: api.Line{Current: 3}, Seq: 500}
	isOK(t, s.Set(x))
	x.Seq = 2
	if s.Super() != x {
		t.Error(s.Super())
	}
	if y, e := super.Load(d); y != x || e != api.OK {
		t.Error(y, e)
	}
	if s.Set(api.Super{State: api.Diskless}) != api.ErrArg || s.Super() != x || s.Broken() != api.OK {
		t.Error("what may not be known")
	}
	s.Map().Mark(1, 7)
	isOK(t, s.SaveMap())
	if b, _ := d.Read(4); b != bitmap.Block(0x82) {
		t.Error("SaveMap")
	}
	table := api.Reserve{Gen: 4, Keys: [16]uint64{5}}
	isOK(t, s.SaveTable(table))
	if y, _, e := reserve.Load(d, 2); y != table || s.Table() != table || e != api.OK {
		t.Error(y, e)
	}
	if s.SaveTable(api.Reserve{Type: 1}) != api.ErrArg || s.Table() != table || s.Broken() != api.OK {
		t.Error("a table that may not be")
	}
	again := attached(t, d, 2)
	if again.Super() != x || again.Table() != table || again.Map().Set() != 0x82 {
		t.Error("what lasts")
	}
}

// P15.3: Leave, in order; what the node knows is saved in any case.
func TestLeave(t *testing.T) {
	for steps := range 7 {
		d := formatted(t, 8)
		s := attached(t, d, 2)
		isOK(t, s.Set(api.Super{State: api.UpToDate, Crashed: true}), s.Write(4, of(1), true))
		s.Map().Mark(3)
		d.Fuse(steps)
		e := s.Leave()
		if (e == api.OK) != (steps == 6) || e != api.OK && e != api.ErrDead {
			t.Error(steps, e)
		}
		if m, _ := d.Read(4); (m == bitmap.Block(8)) != (steps > 0) {
			t.Error(steps)
		}
		if l, _ := d.Read(7); (l == actlog.Block(2, 0)) != (steps > 2) {
			t.Error(steps)
		}
		if x, _ := super.Load(d); x.Crashed != (steps < 5) || x.State != api.UpToDate {
			t.Error(steps, x)
		}
	}
	d := formatted(t, 8)
	s := attached(t, d, 2)
	isOK(t, s.Leave())
	if s.Super() != (api.Super{State: api.UpToDate, Line: line, Seq: 2}) {
		t.Error("saved in any case", s.Super())
	}
	l, _ := actlog.Open(d, 5, 4, 2)
	if l.Number() != 0 {
		t.Error("no transaction is written, if none is hot")
	}
}

// P15.2, P15.3: a store that is broken tells what it is broken by, from then on.
func TestBroken(t *testing.T) {
	for _, fail := range []bool{false, true} {
		d := formatted(t, 8)
		s := attached(t, d, 2)
		want := api.ErrDead
		if fail {
			want = api.ErrIO
			d.Fail()
			if _, e := s.Read(0); e != want {
				t.Error(e)
			}
		} else {
			d.Fuse(0)
			if e := s.SaveMap(); e != want {
				t.Error(e)
			}
			d.Crash(nil)
		}
		if s.Broken() != want {
			t.Error(s.Broken())
		}
		if b, e := s.Read(0); b != of(0) || e != want {
			t.Error(e)
		}
		if _, e := s.Read(8); e != api.ErrRange || s.Write(-1, of(1), true) != api.ErrRange {
			t.Error("ErrRange is ahead")
		}
		for i, e := range []api.Errno{s.Write(0, of(1), true), s.Write(0, of(1), false), s.Set(api.Super{State: api.UpToDate}), s.Set(api.Super{}), s.SaveMap(), s.SaveTable(api.Reserve{}), s.SaveTable(api.Reserve{Type: 1}), s.Leave()} {
			if e != want {
				t.Error(i, e)
			}
		}
		if s.Super().State != api.UpToDate || s.Blocks() != 8 || s.Map() == nil {
			t.Error("looks")
		}
	}
}

// P15.2, P15.3: ErrFull is told, changes nothing, and breaks nothing.
func TestFull(t *testing.T) {
	d := formatted(t, 8)
	b, _ := super.Block(api.Super{State: api.UpToDate, Seq: 1 << 62})
	d.Write(0, b)
	r, _ := reserve.Block(api.Reserve{}, 1<<62)
	d.Write(2, r)
	d.Write(5, actlog.Block(1<<62, 1))
	d.Flush()
	s := attached(t, d, 1)
	s.Map().Mark(5)
	was := d.Copy()
	if s.Set(api.Super{State: api.UpToDate}) != api.ErrFull || s.SaveTable(api.Reserve{}) != api.ErrFull || s.Write(4, of(1), true) != api.ErrFull || !d.Same(was) || s.Broken() != api.OK {
		t.Error("ErrFull")
	}
	isOK(t, s.Write(0, of(2), true), s.Write(4, of(1), false))
	if s.Leave() != api.ErrFull || s.Broken() != api.OK {
		t.Error("Leave")
	}
}

// P15.1 to P15.4: nil and zero stores.
func TestNil(t *testing.T) {
	for _, s := range []*store.Store{nil, {}} {
		if _, e := s.Read(-1); e != api.ErrNil {
			t.Error(e)
		}
		for i, e := range []api.Errno{s.Write(-1, of(0), true), s.Set(api.Super{}), s.SaveMap(), s.SaveTable(api.Reserve{Type: 1}), s.Leave()} {
			if e != api.ErrNil {
				t.Error(i, e)
			}
		}
		if s.Super() != (api.Super{}) || s.Map() != nil || s.Table() != (api.Reserve{}) || len(s.Hot()) != 0 || s.Blocks() != 0 || s.Broken() != api.OK {
			t.Error("nil")
		}
	}
}

// P15.5: wherever the power goes, each block that was written since is marked, or of a hot extent; and what was written is there.
func TestPower(t *testing.T) {
	for seed := range int64(300) {
		r := rand.New(rand.NewSource(seed))
		d := formatted(t, 16)
		s := attached(t, d, 2)
		isOK(t, s.Set(api.Super{State: api.UpToDate, Crashed: true}))
		d.Fuse(r.Intn(60))
		var have [16]byte
		dirty := map[int]bool{}
		maybe := -1
		for n := byte(1); n < 40; n++ {
			i := r.Intn(16)
			s.Map().Mark(i)
			if s.Write(i, of(n), true) != api.OK {
				maybe = i
				break
			}
			have[i], dirty[i] = n, true
		}
		d.Crash([]int{r.Intn(2), r.Intn(2), r.Intn(2)})
		s = attached(t, d, 2)
		for i := range 16 {
			if b, e := s.Read(i); e != api.OK || b != of(have[i]) && i != maybe {
				t.Fatal(seed, i, b[0], e)
			}
			if dirty[i] && !s.Map().Has(i) {
				t.Fatal(seed, i, marked(s))
			}
		}
	}
}
