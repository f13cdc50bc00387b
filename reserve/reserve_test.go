package reserve_test

import (
	"crypto/sha256"
	"encoding/binary"
	"math/rand"
	"slices"
	"testing"

	"gemel/api"
	"gemel/disk"
	"gemel/reserve"
)

// table has keys of the initiators 0, 1 ..
func table(kind api.ResType, holder int, keys ...uint64) api.Reserve {
	t := api.Reserve{Gen: 10, Type: kind, Holder: holder}
	copy(t.Keys[:], keys)
	return t
}

// P11.1: which tables may be.
func TestMay(t *testing.T) {
	for i, x := range []struct {
		t   api.Reserve
		may bool
	}{
		{api.Reserve{}, true}, {table(0, 0, 5), true}, {table(0, 1, 5, 5), false}, {table(0, -1), false}, {api.Reserve{Gen: 1<<64 - 1}, true},
		{table(1, 0, 5), true}, {table(1, 0), false}, {table(1, 1, 5), false}, {table(4, 1, 0, 5), true}, {table(2, 16, 5), false}, {table(2, -1, 5), false}, {table(3, 1<<62, 5), false},
		{table(5, 0, 5), true}, {table(5, 0, 0, 5), true}, {table(5, 1, 5, 5), false}, {table(6, 0), false}, {table(6, 0, 5), true}, {table(7, 0, 5), false}, {table(-1, 0, 5), false}, {table(257, 0, 5), false},
	} {
		if reserve.May(x.t) != x.may {
			t.Error(i)
		}
		if _, e := reserve.Bytes(x.t); (e == api.OK) != x.may || !x.may && e != api.ErrArg {
			t.Error(i, e)
		}
		if _, e := reserve.Block(x.t, 1); (e == api.OK) != x.may || !x.may && e != api.ErrArg {
			t.Error(i, e)
		}
		if u, out, e := reserve.Do(x.t, api.Action{Kind: api.ResIgnore, New: 1}); !x.may && (e != api.ErrArg || u != api.Reserve{} || out != nil) {
			t.Error(i, e)
		}
		if !x.may && (reserve.Reads(x.t, 0) || reserve.Writes(x.t, 0) || reserve.Holds(x.t, 0)) {
			t.Error(i, "of a table that may not be no")
		}
	}
}

// done holds what an action does against what it should.
func done(t *testing.T, at int, was api.Reserve, a api.Action, want api.Reserve, e api.Errno, out ...int) {
	t.Helper()
	got, thrown, f := reserve.Do(was, a)
	if e != api.OK {
		want = api.Reserve{}
	}
	if got != want || f != e || !slices.Equal(thrown, out) {
		t.Error(at, got, f, thrown)
	}
}

func grown(t api.Reserve) api.Reserve {
	t.Gen++
	return t
}

// P11.1: registering.
func TestRegister(t *testing.T) {
	empty := table(0, 0)
	for i, x := range []struct {
		was  api.Reserve
		a    api.Action
		want api.Reserve
		e    api.Errno
	}{
		{empty, api.Action{Kind: 1, New: 5}, table(0, 0, 5), 0},
		{empty, api.Action{Kind: 1, Key: 4, New: 5}, empty, api.ErrConflict},
		{empty, api.Action{Kind: 1}, empty, 0},
		{table(0, 0, 5), api.Action{Kind: 1, Key: 5, New: 6}, table(0, 0, 6), 0},
		{table(0, 0, 5), api.Action{Kind: 1, New: 6}, empty, api.ErrConflict},
		{table(0, 0, 5), api.Action{Kind: 1, Key: 6, New: 5}, empty, api.ErrConflict},
		{table(0, 0, 5), api.Action{Kind: 1, Key: 5}, empty, 0},
		{table(1, 0, 5, 7), api.Action{Kind: 1, Key: 5, New: 6}, table(1, 0, 6, 7), 0},
		{table(1, 0, 5, 7), api.Action{Kind: 1, Key: 5}, table(0, 0, 0, 7), 0},
		{table(4, 1, 5, 7), api.Action{Kind: 1, Who: 1, Key: 7}, table(0, 0, 5), 0},
		{table(4, 1, 5, 7), api.Action{Kind: 1, Key: 5}, table(4, 1, 0, 7), 0},
		{table(5, 0, 5, 7), api.Action{Kind: 1, Key: 5}, table(5, 0, 0, 7), 0},
		{table(5, 0, 5), api.Action{Kind: 1, Key: 5}, empty, 0},
		{table(6, 0, 0, 7), api.Action{Kind: 1, Who: 1, Key: 7}, empty, 0},
		{empty, api.Action{Kind: 2, Key: 99, New: 5, Type: 77}, table(0, 0, 5), 0},
		{table(0, 0, 5), api.Action{Kind: 2, Key: 1, New: 6}, table(0, 0, 6), 0},
		{table(1, 0, 5), api.Action{Kind: 2, Key: 1}, empty, 0},
		{table(6, 0, 5), api.Action{Kind: 2}, empty, 0},
	} {
		done(t, i, x.was, x.a, grown(x.want), x.e)
	}
}

// P11.1: reserving, releasing, clearing.
func TestReserve(t *testing.T) {
	free := table(0, 0, 5, 7)
	for i, x := range []struct {
		was  api.Reserve
		a    api.Action
		want api.Reserve
		e    api.Errno
	}{
		{free, api.Action{Kind: 3, Who: 1, Key: 7, Type: 1}, table(1, 1, 5, 7), 0},
		{free, api.Action{Kind: 3, Who: 1, Key: 7, Type: 4, New: 9}, table(4, 1, 5, 7), 0},
		{free, api.Action{Kind: 3, Who: 1, Key: 7, Type: 5}, table(5, 0, 5, 7), 0},
		{free, api.Action{Kind: 3, Who: 1, Key: 5, Type: 5}, free, api.ErrConflict},
		{free, api.Action{Kind: 3, Who: 2, Type: 5}, free, api.ErrConflict},
		{free, api.Action{Kind: 3, Who: 2, Type: 9}, free, api.ErrConflict},
		{free, api.Action{Kind: 3, Key: 5}, free, api.ErrArg},
		{free, api.Action{Kind: 3, Key: 5, Type: 7}, free, api.ErrArg},
		{free, api.Action{Kind: 3, Key: 5, Type: -1}, free, api.ErrArg},
		{table(1, 0, 5, 7), api.Action{Kind: 3, Key: 5, Type: 1}, table(1, 0, 5, 7), 0},
		{table(1, 0, 5, 7), api.Action{Kind: 3, Key: 5, Type: 2}, free, api.ErrConflict},
		{table(1, 0, 5, 7), api.Action{Kind: 3, Who: 1, Key: 7, Type: 1}, free, api.ErrConflict},
		{table(1, 0, 5, 7), api.Action{Kind: 3, Who: 1, Key: 7, Type: 9}, free, api.ErrArg},
		{table(5, 0, 5, 7), api.Action{Kind: 3, Who: 1, Key: 7, Type: 5}, table(5, 0, 5, 7), 0},
		{table(5, 0, 5, 7), api.Action{Kind: 3, Who: 1, Key: 7, Type: 6}, free, api.ErrConflict},

		{table(1, 0, 5, 7), api.Action{Kind: 4, Key: 5, Type: 1}, free, 0},
		{table(1, 0, 5, 7), api.Action{Kind: 4, Key: 5, Type: 2}, free, api.ErrArg},
		{table(1, 0, 5, 7), api.Action{Kind: 4, Key: 6, Type: 2}, free, api.ErrConflict},
		{table(1, 0, 5, 7), api.Action{Kind: 4, Who: 2, Type: 1}, free, api.ErrConflict},
		{table(1, 0, 5, 7), api.Action{Kind: 4, Who: 1, Key: 7, Type: 2}, table(1, 0, 5, 7), 0},
		{table(6, 0, 5, 7), api.Action{Kind: 4, Who: 1, Key: 7, Type: 6}, free, 0},
		{table(6, 0, 5, 7), api.Action{Kind: 4, Who: 1, Key: 7, Type: 5}, free, api.ErrArg},
		{free, api.Action{Kind: 4, Key: 5, Type: 77}, free, 0},

		{table(1, 0, 5, 7), api.Action{Kind: 5, Who: 1, Key: 7}, grown(table(0, 0)), 0},
		{table(1, 0, 5, 7), api.Action{Kind: 5, Who: 1, Key: 5}, free, api.ErrConflict},
		{free, api.Action{Kind: 5, Who: 2}, free, api.ErrConflict},
	} {
		done(t, i, x.was, x.a, x.want, x.e)
	}
}

// P11.1: preempting.
func TestPreempt(t *testing.T) {
	all, one, free := table(5, 0, 5, 7, 7, 9), table(1, 1, 5, 7, 7, 9), table(0, 0, 5, 7, 7, 9)
	for i, x := range []struct {
		was  api.Reserve
		a    api.Action
		want api.Reserve
		e    api.Errno
		out  []int
	}{
		{all, api.Action{Kind: 6, Key: 5, Type: 2}, table(2, 0, 5), 0, []int{1, 2, 3}},
		{all, api.Action{Kind: 6, Who: 1, Key: 7, Type: 4}, table(4, 1, 0, 7), 0, []int{0, 2, 3}},
		{all, api.Action{Kind: 6, Who: 1, Key: 7, Type: 6}, table(6, 0, 0, 7), 0, []int{0, 2, 3}},
		{all, api.Action{Kind: 6, Who: 1, Key: 5, Type: 9}, all, api.ErrConflict, nil},
		{all, api.Action{Kind: 6, Key: 5, Type: 0}, all, api.ErrArg, nil},
		{all, api.Action{Kind: 6, Key: 5, Type: 7}, all, api.ErrArg, nil},
		{all, api.Action{Kind: 6, Key: 5, New: 7, Type: 99}, table(5, 0, 5, 0, 0, 9), 0, []int{1, 2}},
		{all, api.Action{Kind: 6, Key: 5, New: 5}, all, 0, nil},
		{all, api.Action{Kind: 6, Key: 5, New: 8, Type: 1}, all, api.ErrConflict, nil},

		{one, api.Action{Kind: 6, Key: 5, New: 7, Type: 3}, table(3, 0, 5, 0, 0, 9), 0, []int{1, 2}},
		{one, api.Action{Kind: 6, Who: 2, Key: 7, New: 7, Type: 3}, table(3, 2, 5, 0, 7, 9), 0, []int{1}},
		{one, api.Action{Kind: 6, Who: 1, Key: 7, New: 7, Type: 6}, table(6, 0, 5, 7, 0, 9), 0, []int{2}},
		{one, api.Action{Kind: 6, Key: 5, New: 7, Type: 0}, one, api.ErrArg, nil},
		{one, api.Action{Kind: 6, Key: 5, New: 9, Type: 99}, table(1, 1, 5, 7, 7), 0, []int{3}},
		{one, api.Action{Kind: 6, Key: 5, New: 5}, one, 0, nil},
		{one, api.Action{Kind: 6, Key: 5, New: 0, Type: 1}, one, api.ErrArg, nil},
		{one, api.Action{Kind: 6, Key: 5, New: 8}, one, api.ErrConflict, nil},
		{one, api.Action{Kind: 6, Who: 4, New: 7, Type: 1}, one, api.ErrConflict, nil},

		{free, api.Action{Kind: 6, Key: 5, New: 7, Type: 99}, table(0, 0, 5, 0, 0, 9), 0, []int{1, 2}},
		{free, api.Action{Kind: 6, Key: 5, New: 0, Type: 1}, free, api.ErrArg, nil},
		{free, api.Action{Kind: 6, Key: 5, New: 8}, free, api.ErrConflict, nil},
	} {
		done(t, i, x.was, x.a, grown(x.want), x.e, x.out...)
	}
}

// P11.1: what is no action, and the greatest Gen.
func TestDoBounds(t *testing.T) {
	for _, a := range []api.Action{{}, {Kind: 7}, {Kind: -1}, {Kind: 2, Who: -1}, {Kind: 2, Who: 16}, {Kind: 2, Who: 1 << 62}} {
		done(t, 0, api.Reserve{}, a, api.Reserve{}, api.ErrArg)
	}
	full := table(1, 0, 5, 7)
	full.Gen = 1 << 62
	held := full
	for i, x := range []struct {
		a api.Action
		e api.Errno
	}{{api.Action{Kind: 2, New: 1}, api.ErrFull}, {api.Action{Kind: 5, Key: 5}, api.ErrFull}, {api.Action{Kind: 6, Key: 5, New: 7}, api.ErrFull}, {api.Action{Kind: 3, Key: 5, Type: 1}, 0}, {api.Action{Kind: 1, Key: 9}, api.ErrConflict}} {
		done(t, i, full, x.a, held, x.e)
	}
	for _, gen := range []uint64{1<<62 + 1, 1<<64 - 1} {
		full.Gen = gen
		done(t, 0, full, api.Action{Kind: 2, New: 1}, full, api.ErrFull)
		done(t, 1, full, api.Action{Kind: 3, Key: 5, Type: 1}, full, api.ErrFull)
		done(t, 2, full, api.Action{Kind: 3, Key: 4, Type: 1}, full, api.ErrConflict)
	}
	full.Gen = 1<<62 - 1
	done(t, 3, full, api.Action{Kind: 6, Key: 5, New: 7, Type: 1}, func() api.Reserve { t := table(1, 0, 5); t.Gen = 1 << 62; return t }(), 0, 1)
}

// P11.2: who may read, who may write, who holds: 0 holds (of 1 to 4), 1 is registered, 2 is not.
func TestWho(t *testing.T) {
	for kind, want := range []string{"rw- rw- rw-", "rwh r-- r--", "rwh --- ---", "rwh rw- r--", "rwh rw- ---", "rwh rwh r--", "rwh rwh ---"} {
		x := table(api.ResType(kind), 0, 5, 7)
		got := ""
		for who := range 3 {
			for i, is := range []bool{reserve.Reads(x, who), reserve.Writes(x, who), reserve.Holds(x, who)} {
				if is {
					got += "rwh"[i : i+1]
				} else {
					got += "-"
				}
			}
			if who < 2 {
				got += " "
			}
		}
		if got != want {
			t.Error(kind, got)
		}
		for _, who := range []int{-1, 16, 1 << 62} {
			if reserve.Reads(x, who) || reserve.Writes(x, who) || reserve.Holds(x, who) {
				t.Error(kind, who)
			}
		}
	}
}

// P11.3: a table's bytes.
func TestBytes(t *testing.T) {
	x := table(4, 1, 258, 7)
	x.Keys[15] = 1 << 63
	b, e := reserve.Bytes(x)
	want := append(binary.BigEndian.AppendUint64(nil, 10), 4, 1)
	for _, k := range x.Keys {
		want = binary.BigEndian.AppendUint64(want, k)
	}
	if e != api.OK || !slices.Equal(b, want) {
		t.Error(b, e)
	}
	if y, e := reserve.OfBytes(b); y != x || e != api.OK {
		t.Error(y, e)
	}
	for i, b := range [][]byte{nil, b[:137], append(slices.Clone(b), 0), append([]byte{0, 0, 0, 0, 0, 0, 0, 0, 1, 0}, make([]byte, 128)...), append([]byte{0, 0, 0, 0, 0, 0, 0, 0, 0, 1}, make([]byte, 128)...)} {
		if y, e := reserve.OfBytes(b); y != (api.Reserve{}) || e != api.ErrBytes {
			t.Error(i, e)
		}
	}
	blk, _ := reserve.Block(x, 9)
	said := append(binary.BigEndian.AppendUint64([]byte("GERV"), 9), want...)
	said = append(said, make([]byte, 248-len(said))...)
	sum := sha256.Sum256(said)
	if string(blk[:]) != string(append(said, sum[:8]...)) {
		t.Errorf("%x", blk)
	}
	if y, seq, e := reserve.Of(blk); y != x || seq != 9 || e != api.OK {
		t.Error(y, seq, e)
	}
	for i := range blk {
		y := blk
		y[i] ^= 16
		if u, seq, e := reserve.Of(y); u != (api.Reserve{}) || seq != 0 || e != api.ErrBytes {
			t.Error(i, e)
		}
	}
	for _, i := range []int{3, 20, 21, 150, 247} {
		y := blk
		y[i] = 9
		sum := sha256.Sum256(y[:248])
		copy(y[248:], sum[:8])
		if _, _, e := reserve.Of(y); e != api.ErrBytes {
			t.Error(i, e)
		}
	}
}

func made(t *testing.T, blocks int) *disk.Disk {
	t.Helper()
	d, e := disk.New(blocks)
	if e != api.OK {
		t.Fatal(e)
	}
	return d
}

func put(d *disk.Disk, at int, x api.Reserve, seq uint64) {
	b, _ := reserve.Block(x, seq)
	d.Write(at, b)
	d.Flush()
}

// P11.3: Load, Save, Format.
func TestSlots(t *testing.T) {
	d := made(t, 5)
	if x, seq, e := reserve.Load(d, 2); x != (api.Reserve{}) || seq != 0 || e != api.ErrNone {
		t.Error(x, seq, e)
	}
	for n := uint64(1); n < 6; n++ {
		x := table(0, 0, n)
		if seq, e := reserve.Save(d, 2, x); seq != n || e != api.OK || len(d.Open()) != 0 {
			t.Error(seq, e)
		}
		b, _ := d.Read(2 + int(n-1)%2)
		if y, seq, e := reserve.Of(b); y != x || seq != n || e != api.OK {
			t.Error(y, seq, e)
		}
		if y, seq, e := reserve.Load(d, 2); y != x || seq != n || e != api.OK {
			t.Error(y, seq, e)
		}
	}
	put(d, 2, table(0, 0, 50), 7)
	put(d, 3, table(0, 0, 60), 7)
	if x, _, _ := reserve.Load(d, 2); x != table(0, 0, 50) {
		t.Error("of equal ones the first slot")
	}
	put(d, 3, table(0, 0, 60), 8)
	if x, seq, _ := reserve.Load(d, 2); x != table(0, 0, 60) || seq != 8 {
		t.Error(x)
	}
	for steps := range 4 {
		d := made(t, 2)
		put(d, 0, table(0, 0, 1), 5)
		put(d, 1, table(0, 0, 2), 6)
		d.Fuse(steps)
		e := reserve.Format(d, 0)
		a, _ := d.Read(0)
		b, _ := d.Read(1)
		empty, _ := reserve.Block(api.Reserve{}, 1)
		if (e == api.OK) != (steps == 3) || e != api.OK && e != api.ErrDead || (b == api.Block{}) != (steps > 0) || (a == empty) != (steps > 1) || (len(d.Open()) == 0) != (steps == 0 || steps == 3) {
			t.Error(steps, e)
		}
	}
}

// P11.3: the errors, in their order.
func TestErrors(t *testing.T) {
	good, bad := table(0, 0, 5), table(1, 1, 5)
	for _, d := range []*disk.Disk{nil, {}} {
		_, _, e := reserve.Load(d, -1)
		_, f := reserve.Save(d, -1, bad)
		if e != api.ErrNil || f != api.ErrNil || reserve.Format(d, -1) != api.ErrNil {
			t.Error(e, f)
		}
	}
	d := made(t, 3)
	for _, at := range []int{-1, 2, 3, 1 << 62} {
		was := d.Copy()
		x, n, e := reserve.Load(d, at)
		seq, f := reserve.Save(d, at, good)
		if x != (api.Reserve{}) || n != 0 || seq != 0 || e != api.ErrArg || f != api.ErrArg || reserve.Format(d, at) != api.ErrArg || !d.Same(was) || len(d.Open()) != 0 {
			t.Error(at, e, f)
		}
	}
	if seq, e := reserve.Save(d, 0, bad); seq != 0 || e != api.ErrArg {
		t.Error(e)
	}
	put(d, 0, good, 1<<62-1)
	if seq, e := reserve.Save(d, 0, good); seq != 1<<62 || e != api.OK {
		t.Error(seq, e)
	}
	was := d.Copy()
	if seq, e := reserve.Save(d, 0, good); seq != 0 || e != api.ErrFull || !d.Same(was) {
		t.Error(seq, e)
	}
	put(d, 0, good, 1<<64-1)
	if _, e := reserve.Save(d, 0, good); e != api.ErrFull {
		t.Error(e)
	}
	d.Fail()
	x, n, e := reserve.Load(d, 0)
	seq, f := reserve.Save(d, 0, good)
	if x != (api.Reserve{}) || n != 0 || seq != 0 || e != api.ErrIO || f != api.ErrIO || reserve.Format(d, 0) != api.ErrIO {
		t.Error(e, f)
	}
	d.Blank()
	d.Fuse(0)
	if seq, e := reserve.Save(d, 0, good); seq != 0 || e != api.ErrDead {
		t.Error(seq, e)
	}
}

// P11.4: what comes of an action may be; at most one alone may write under 1, 2; none that is not registered under 2, 4, 6.
func TestActions(t *testing.T) {
	r := rand.New(rand.NewSource(3))
	x := api.Reserve{}
	okays := 0
	for range 20000 {
		a := api.Action{Kind: api.ResKind(1 + r.Intn(6)), Who: r.Intn(4), Key: uint64(r.Intn(4)), New: uint64(r.Intn(4)), Type: api.ResType(r.Intn(8))}
		y, out, e := reserve.Do(x, a)
		if e != api.OK {
			continue
		}
		okays++
		if !reserve.May(y) || len(out) > 0 && a.Kind != api.ResPreempt || !slices.IsSorted(out) {
			t.Fatal(x, a, y)
		}
		writers := 0
		for who := range 16 {
			if reserve.Writes(y, who) {
				writers++
				if y.Keys[who] == 0 && (y.Type == 2 || y.Type == 4 || y.Type == 6) {
					t.Fatal(y, who)
				}
			}
			thrown := x.Keys[who] != 0 && y.Keys[who] == 0
			if a.Kind == api.ResPreempt && thrown != slices.Contains(out, who) {
				t.Fatal(x, a, out)
			}
		}
		if (y.Type == 1 || y.Type == 2) && writers != 1 {
			t.Fatal(y)
		}
		x = y
	}
	if okays < 2000 {
		t.Error(okays)
	}
}

// P11.4: wherever the power goes while it is saved, what counts is what counted, or what was to be saved.
func TestPower(t *testing.T) {
	for saves := 1; saves < 4; saves++ {
		for steps := range 3 {
			for pick := range 2 {
				d := made(t, 2)
				for range saves {
					reserve.Save(d, 0, table(0, 0, 1))
				}
				d.Fuse(steps)
				_, e := reserve.Save(d, 0, table(0, 0, 2))
				d.Crash([]int{pick})
				x, _, f := reserve.Load(d, 0)
				if f != api.OK || x != table(0, 0, 1) && x != table(0, 0, 2) || e == api.OK && x != table(0, 0, 2) {
					t.Error(saves, steps, pick, x, f)
				}
			}
		}
	}
}
