package meta_test

import (
	"math/rand"
	"slices"
	"strings"
	"testing"

	"gemel/actlog"
	"gemel/api"
	"gemel/bitmap"
	"gemel/disk"
	"gemel/meta"
	"gemel/reserve"
	"gemel/store"
	"gemel/super"
)

func plate(t *testing.T, blocks int) *disk.Disk {
	t.Helper()
	d, e := disk.New(blocks)
	if e != api.OK {
		t.Fatal(e)
	}
	return d
}

func formatted(t *testing.T, blocks int) *disk.Disk {
	t.Helper()
	d := plate(t, store.Size(blocks))
	if e := store.Format(d, blocks, api.Line{Current: 7}, api.UpToDate); e != api.OK {
		t.Fatal(e)
	}
	return d
}

func read(d *disk.Disk, i int) api.Block {
	b, _ := d.Read(i)
	return b
}

const zero = "0000000000000000"

// full is what a disk may say.
func full() api.Meta {
	return api.Meta{
		Blocks: 8, Super: api.Super{State: api.Outdated, Crashed: true, Line: api.Line{Current: 0xabcdef0123456789, Base: 5, History: [2]uint64{4, 1 << 63}}, Seq: 1<<64 - 1},
		Table: api.Reserve{Gen: 9, Keys: [16]uint64{0: 5, 15: 0xff}, Type: api.ExclusiveAccess, Holder: 15}, TableSeq: 12, Marked: true, Set: 0x83, Number: 10, Hot: 0x8003,
	}
}

const fullText = "meta 8\nsuper 3 1 18446744073709551615\nline abcdef0123456789 0000000000000005 0000000000000004 8000000000000000\ntable 12 9 2 15\nkey 0 0000000000000005\nkey 15 00000000000000ff\nmap 0000000000000083\nhot 10 0 1 15\n"

// P29.1: what a disk says, and that nothing is changed by it.
func TestTake(t *testing.T) {
	d := formatted(t, 8)
	m, e := meta.Take(d, 8)
	want := api.Meta{Blocks: 8, Super: api.Super{State: api.UpToDate, Line: api.Line{Current: 7}, Seq: 1}, TableSeq: 1, Marked: true}
	if m != want || e != api.OK {
		t.Error(m, e)
	}
	s, _ := store.Attach(d, 8, 2)
	s.Set(api.Super{State: api.UpToDate, Crashed: true, Line: api.Line{Current: 9, Base: 7}})
	s.SaveTable(api.Reserve{Gen: 4, Keys: [16]uint64{3: 8}})
	s.Map().Mark(2, 7)
	s.SaveMap()
	s.Write(5, api.Block{1}, true)
	was := d.Copy()
	want = api.Meta{Blocks: 8, Super: api.Super{State: api.UpToDate, Crashed: true, Line: api.Line{Current: 9, Base: 7}, Seq: 2}, Table: api.Reserve{Gen: 4, Keys: [16]uint64{3: 8}}, TableSeq: 2, Marked: true, Set: 0x84, Number: 1, Hot: 2}
	if m, e = meta.Take(d, 8); m != want || e != api.OK || !d.Same(was) || len(d.Open()) != 0 {
		t.Error(m, e)
	}
	d.Write(4, api.Block{1})
	d.Write(8, actlog.Block(3, 0xffff))
	d.Write(5, actlog.Block(9, 1)) // in another slot
	want.Marked, want.Set, want.Number, want.Hot = false, 0, 3, 0xffff
	if m, _ = meta.Take(d, 8); m != want {
		t.Error(m)
	}
	d.Write(4, bitmap.Block(1<<8))
	if m, _ = meta.Take(d, 8); m.Marked || m.Set != 0 {
		t.Error("bits of blocks that there are not", m)
	}
}

// P29.1: what Take refuses, in order.
func TestTakeErrors(t *testing.T) {
	for _, d := range []*disk.Disk{nil, {}} {
		if m, e := meta.Take(d, 0); m != (api.Meta{}) || e != api.ErrNil || meta.Put(d, api.Meta{}) != api.ErrNil {
			t.Error(e)
		}
	}
	d := formatted(t, 8)
	for _, n := range []int{-1, 0, 7, 9, 65, 1 << 62} {
		if m, e := meta.Take(d, n); m != (api.Meta{}) || e != api.ErrArg {
			t.Error(n, e)
		}
	}
	for _, at := range []int{0, 2} {
		x := d.Copy()
		x.Write(at, api.Block{})
		x.Write(at+1, api.Block{})
		if m, e := meta.Take(x, 8); m != (api.Meta{}) || e != api.ErrNone {
			t.Error(at, e)
		}
	}
	d.Fail()
	if m, e := meta.Take(d, 8); m != (api.Meta{}) || e != api.ErrIO {
		t.Error(e)
	}
	if _, e := meta.Take(d, 7); e != api.ErrArg {
		t.Error(e)
	}
}

// P29.1: what may be.
func TestMay(t *testing.T) {
	for i, x := range []struct {
		f   func(m *api.Meta)
		may bool
	}{
		{func(m *api.Meta) {}, true}, {func(m *api.Meta) { m.Blocks = 0 }, false}, {func(m *api.Meta) { m.Blocks = 65 }, false}, {func(m *api.Meta) { m.Blocks = -1 }, false}, {func(m *api.Meta) { m.Blocks = 7 }, false}, {func(m *api.Meta) { m.Blocks, m.Set = 64, 1<<64-1 }, true},
		{func(m *api.Meta) { m.Super.State = api.Diskless }, false}, {func(m *api.Meta) { m.Super.Line.Base = m.Super.Line.Current }, false}, {func(m *api.Meta) { m.Super.Seq = 0 }, true},
		{func(m *api.Meta) { m.Table.Holder = 1 }, false}, {func(m *api.Meta) { m.Table.Type = 7 }, false}, {func(m *api.Meta) { m.TableSeq = 1<<64 - 1 }, true},
		{func(m *api.Meta) { m.Set = 0x100 }, false}, {func(m *api.Meta) { m.Marked = false }, false}, {func(m *api.Meta) { m.Marked, m.Set = false, 0 }, true}, {func(m *api.Meta) { m.Set = 0 }, true},
		{func(m *api.Meta) { m.Number = 0 }, false}, {func(m *api.Meta) { m.Number, m.Hot = 0, 0 }, true}, {func(m *api.Meta) { m.Hot = 0 }, true},
	} {
		m := full()
		x.f(&m)
		s, e := meta.Text(m)
		if meta.May(m) != x.may || (e == api.OK) != x.may || !x.may && (s != "" || e != api.ErrArg) {
			t.Error(i, e)
		}
		if e := meta.Put(plate(t, 17), m); !x.may && e != api.ErrArg {
			t.Error(i, e)
		}
	}
}

// P29.2: texts.
func TestText(t *testing.T) {
	if s, e := meta.Text(full()); s != fullText || e != api.OK {
		t.Error(s, e)
	}
	if m, e := meta.Of(fullText); m != full() || e != api.OK {
		t.Error(m, e)
	}
	m, _ := meta.Take(formatted(t, 8), 8)
	want := "meta 8\nsuper 4 0 1\nline 0000000000000007 " + zero + " " + zero + " " + zero + "\ntable 1 0 0 0\nmap " + zero + "\nhot 0\n"
	if s, e := meta.Text(m); s != want || e != api.OK {
		t.Error(s, e)
	}
	m.Marked = false
	want = strings.Replace(want, "map "+zero, "map none", 1)
	if s, e := meta.Text(m); s != want || e != api.OK {
		t.Error(s, e)
	}
	if x, e := meta.Of(want); x != m || e != api.OK {
		t.Error(x, e)
	}
}

// P29.2, P29.4: no other text is one's.
func TestOf(t *testing.T) {
	lines := strings.SplitAfter(fullText, "\n")
	for i := range lines[:8] {
		cut := slices.Delete(slices.Clone(lines), i, i+1)
		twice := slices.Insert(slices.Clone(lines), i, lines[i])
		turned := slices.Clone(lines)
		turned[i], turned[(i+1)%8] = turned[(i+1)%8], turned[i]
		for j, l := range [][]string{cut, twice, turned} {
			_, e := meta.Of(strings.Join(l, ""))
			if j == 0 && strings.HasPrefix(lines[i], "key 0") {
				continue
			}
			if e != api.ErrBytes {
				t.Error(i, j, e)
			}
		}
	}
	for i, x := range [][2]string{
		{"meta 8", "meta 08"}, {"meta 8", "meta 8 "}, {"meta 8", "meta"}, {"meta 8", "meta  8"}, {"meta 8", "meta 65"}, {"meta 8", "meta 7"}, {"meta 8", "meta x"}, {"meta 8", "Meta 8"}, {"meta 8", "meta 8 8"}, {"meta 8\n", "meta 8\n\n"}, {"meta 8\n", "\nmeta 8\n"}, {"meta 8\n", "meta 8\r\n"}, {"meta 8", "meta 18446744073709551624"},
		{"super 3 1", "super 3 2"}, {"super 3 1", "super 3 01"}, {"super 3", "super 1"}, {"super 3", "super 5"}, {"super 3", "super 18446744073709551615"}, {"18446744073709551615", "18446744073709551616"}, {"super 3", "super -3"}, {"super 3", "super +3"},
		{"line abcdef0123456789", "line ABCDEF0123456789"}, {"line abc", "line 0abc"}, {" 0000000000000005 0", " 5 0"}, {"0000000000000005 0000000000000004", "0000000000000005  0000000000000004"}, {"8000000000000000", "18000000000000000"},
		{"table 12 9 2 15", "table 12 9 2 14"}, {"table 12 9 2 15", "table 12 9 7 15"}, {"table 12 9 2 15", "table 12 9 2"}, {"key 15 ", "key 16 "}, {"key 15 ", "key 18446744073709551615 "}, {"key 15 00000000000000ff", "key 15 " + zero}, {"key 0 ", "key 1 2 "},
		{"map 0000000000000083", "map none"}, {"map 0000000000000083", "map"}, {"map 0000000000000083", "map none 0000000000000083"}, {"map 0000000000000083", "map 0000000000000183"}, {"map 0000000000000083", "map 83"},
		{"hot 10 0 1 15", "hot 10 1 0 15"}, {"hot 10 0 1 15", "hot 10 0 0 1 15"}, {"hot 10 0 1 15", "hot 0 0 1 15"}, {"hot 10 0 1 15", "hot 10 0 1 16"}, {"hot 10 0 1 15", "hot 10 0 1 18446744073709551615"}, {"hot 10 0 1 15", "hot 10 0 1 15 "}, {"hot 10 0 1 15", "hot"}, {"hot 10 0 1 15\n", "hot 10 0 1 15"}, {"hot 10 0 1 15\n", "hot 10 0 1 15\n\n"},
	} {
		s := strings.Replace(fullText, x[0], x[1], 1)
		m, e := meta.Of(s)
		if x[1] == "map none" {
			if e != api.OK || m.Marked || m.Set != 0 {
				t.Error(i, e)
			}
			continue
		}
		if s == fullText || m != (api.Meta{}) || e != api.ErrBytes {
			t.Error(i, m, e)
		}
	}
	if _, e := meta.Of(""); e != api.ErrBytes {
		t.Error(e)
	}
}

// P29.2: a text that is mangled is none's, or has that text.
func TestMangled(t *testing.T) {
	r := rand.New(rand.NewSource(4))
	took := 0
	for range 20000 {
		b := []byte(fullText)
		b[r.Intn(len(b))] = "0123456789abcdef \nxkn"[r.Intn(21)]
		m, e := meta.Of(string(b))
		if e != api.OK {
			continue
		}
		took++
		if s, e := meta.Text(m); s != string(b) || e != api.OK {
			t.Fatal(string(b))
		}
	}
	if took < 100 {
		t.Error(took)
	}
}

// P29.3: what is put, block by block, rising, then flushed; other blocks are left.
func TestPut(t *testing.T) {
	m := full()
	a, _ := super.Block(m.Super)
	b, _ := reserve.Block(m.Table, m.TableSeq)
	want := []api.Block{a, {}, b, {}, bitmap.Block(m.Set), {}, {}, actlog.Block(m.Number, m.Hot), {}}
	for steps := range 11 {
		d := plate(t, 17)
		for i := range 17 {
			d.Write(i, api.Block{3})
		}
		d.Flush()
		d.Fuse(steps)
		e := meta.Put(d, m)
		if (e == api.OK) != (steps == 10) || e != api.OK && e != api.ErrDead || (len(d.Open()) == 0) != (steps == 0 || steps == 10) {
			t.Error(steps, e)
		}
		for i := range 17 {
			x := api.Block{3}
			if i < min(steps, 9) {
				x = want[i]
			}
			if read(d, i) != x {
				t.Error(steps, i)
			}
		}
	}
	d := plate(t, 17)
	m.Marked, m.Set, m.Number, m.Hot = false, 0, 0, 0
	d.Write(5, api.Block{3})
	if meta.Put(d, m) != api.OK || read(d, 4) != (api.Block{}) || read(d, 5) != (api.Block{}) {
		t.Error("noughts")
	}
	if meta.Put(plate(t, 16), m) != api.ErrArg {
		t.Error("a disk of another size")
	}
	d.Fail()
	if meta.Put(d, m) != api.ErrIO {
		t.Error("ErrIO")
	}
}

// P29.3: the lines that differ.
func TestDiffer(t *testing.T) {
	if l := meta.Differ(full(), full()); len(l) != 0 {
		t.Error(l)
	}
	for i, x := range []struct {
		f    func(m *api.Meta)
		want string
	}{
		{func(m *api.Meta) { m.Blocks = 9 }, "meta"}, {func(m *api.Meta) { m.Super.State = 4 }, "super"}, {func(m *api.Meta) { m.Super.Crashed = false }, "super"}, {func(m *api.Meta) { m.Super.Seq = 4 }, "super"}, {func(m *api.Meta) { m.Super.Line.History[1] = 4 }, "line"},
		{func(m *api.Meta) { m.TableSeq = 4 }, "table"}, {func(m *api.Meta) { m.Table.Gen = 4 }, "table"}, {func(m *api.Meta) { m.Table.Type = 4 }, "table"}, {func(m *api.Meta) { m.Table.Holder = 4 }, "table"}, {func(m *api.Meta) { m.Table.Keys[4] = 4 }, "key"}, {func(m *api.Meta) { m.Table.Keys[0] = 4 }, "key"},
		{func(m *api.Meta) { m.Set = 4 }, "map"}, {func(m *api.Meta) { m.Marked = false }, "map"}, {func(m *api.Meta) { m.Number = 4 }, "hot"}, {func(m *api.Meta) { m.Hot = 4 }, "hot"},
		{func(m *api.Meta) { *m = api.Meta{} }, "meta super line table key map hot"},
		{func(m *api.Meta) { m.Hot, m.Blocks, m.Super.Line.Base = 4, 9, 1 }, "meta line hot"},
	} {
		m := full()
		x.f(&m)
		if l := strings.Join(meta.Differ(full(), m), " "); l != x.want || l != strings.Join(meta.Differ(m, full()), " ") {
			t.Error(i, l)
		}
	}
	a, b := full(), full()
	a.Marked, b.Marked, b.Set = false, false, 0
	if l := meta.Differ(a, b); len(l) != 0 {
		t.Error("as the text would have them", l)
	}
}

// P29.4: what is taken may be; what is put is taken again; who attaches that disk knows, and has marked, what it says.
func TestFollows(t *testing.T) {
	for seed := range int64(80) {
		r := rand.New(rand.NewSource(seed))
		n := 1 + r.Intn(64)
		d := formatted(t, n)
		s, _ := store.Attach(d, n, 1+r.Intn(16))
		for range r.Intn(12) {
			switch r.Intn(4) {
			case 0:
				s.Write(r.Intn(n), api.Block{1}, true)
			case 1:
				s.Map().Mark(r.Intn(n))
				s.SaveMap()
			case 2:
				s.Set(api.Super{State: api.State(2 + r.Intn(3)), Line: api.Line{Current: r.Uint64()}})
			case 3:
				var t api.Reserve
				t.Keys[r.Intn(16)] = r.Uint64()
				s.SaveTable(t)
			}
		}
		m, e := meta.Take(d, n)
		if e != api.OK || !meta.May(m) {
			t.Fatal(seed, e)
		}
		text, e := meta.Text(m)
		x, f := meta.Of(text)
		if e != api.OK || f != api.OK || x != m {
			t.Fatal(seed, text)
		}
		to := plate(t, store.Size(n))
		if e := meta.Put(to, m); e != api.OK {
			t.Fatal(seed, e)
		}
		if y, e := meta.Take(to, n); y != m || e != api.OK || len(meta.Differ(y, m)) != 0 {
			t.Fatal(seed, y, m)
		}
		a, e := store.Attach(to, n, 16)
		if e != api.OK || a.Super() != m.Super || a.Table() != m.Table || a.Map().Set() != m.Set || len(a.Hot()) != len(s.Hot()) {
			t.Fatal(seed, e)
		}
	}
}
