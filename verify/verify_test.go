package verify_test

import (
	"math/rand"
	"slices"
	"testing"

	"gemel/api"
	"gemel/disk"
	"gemel/message"
	"gemel/resync"
	"gemel/store"
	"gemel/verify"
)

func of(x byte) api.Block { return api.Block{x} }

// made is a store of blocks of these bytes.
func made(t *testing.T, l ...byte) (*store.Store, *disk.Disk) {
	t.Helper()
	d, e := disk.New(store.Size(len(l)))
	if e != api.OK {
		t.Fatal(e)
	}
	store.Format(d, len(l), api.Line{Current: 1}, api.UpToDate)
	s, e := store.Attach(d, len(l), 4)
	if e != api.OK {
		t.Fatal(e)
	}
	for i, x := range l {
		s.Write(i, of(x), false)
	}
	return s, d
}

func begun(t *testing.T, s *store.Store, from, to, window int) *verify.Verify {
	t.Helper()
	v, e := verify.New(s, from, to, window)
	if e != api.OK {
		t.Fatal(e)
	}
	return v
}

func asks(t *testing.T, v *verify.Verify, want ...int) []api.Message {
	t.Helper()
	l, e := v.Asks()
	var got []int
	for _, m := range l {
		got = append(got, m.Block)
		if m.Kind != api.MsgVerify || !message.May(m) {
			t.Error(m)
		}
	}
	if e != api.OK || !slices.Equal(got, want) {
		t.Error(got, e)
	}
	return l
}

func takes(t *testing.T, v *verify.Verify, block int, yes, done bool, e api.Errno) {
	t.Helper()
	if d, f := v.Take(api.Message{Kind: api.MsgVerified, Block: block, Yes: yes}); d != done || f != e {
		t.Error(block, d, f)
	}
}

func counts(t *testing.T, v *verify.Verify, asked, same, other, again int) {
	t.Helper()
	if c := v.Count(); c != (api.Checked{Asked: asked, Same: same, Other: other, Again: again}) {
		t.Error(c)
	}
}

func marked(s *store.Store) []int { return slices.Collect(s.Map().All()) }

// P28.1: rows and windows.
func TestNew(t *testing.T) {
	for _, s := range []*store.Store{nil, {}} {
		if v, e := verify.New(s, -1, 0, 0); v != nil || e != api.ErrNil {
			t.Error(e)
		}
	}
	s, _ := made(t, 1, 2, 3)
	for _, x := range []struct {
		from, to, window int
		ok               bool
	}{{0, 3, 1, true}, {0, 3, 16, true}, {0, 0, 1, true}, {3, 3, 1, true}, {1, 2, 1, true}, {0, 3, 0, false}, {0, 3, 17, false}, {0, 3, -1, false}, {-1, 3, 1, false}, {0, 4, 1, false}, {2, 1, 1, false}, {4, 4, 1, false}, {-2, -1, 1, false}, {0, 1 << 62, 1, false}} {
		v, e := verify.New(s, x.from, x.to, x.window)
		if (e == api.OK) != x.ok || (v != nil) != x.ok || !x.ok && e != api.ErrArg {
			t.Error(x, e)
		}
		if x.ok && (v.Done() != (x.from == x.to) || v.Place() != x.from) {
			t.Error(x, v.Place())
		}
	}
}

// P28.1, P28.2: the example: asking, answers, what is found.
func TestExample(t *testing.T) {
	s, _ := made(t, 'a', 'b', 'c')
	v := begun(t, s, 0, 3, 2)
	l := asks(t, v, 0, 1)
	if string(l[1].Digest) != string(resync.Digest(of('b'))) {
		t.Error("of the block as it is")
	}
	asks(t, v)
	if !slices.Equal(v.Under(), []int{0, 1}) || v.Place() != 0 {
		t.Error(v.Under())
	}
	takes(t, v, 1, false, false, api.OK)
	if v.Place() != 0 || !slices.Equal(v.Found(), []int{1}) || !slices.Equal(marked(s), []int{1}) {
		t.Error(v.Found())
	}
	asks(t, v, 2)
	takes(t, v, 0, true, false, api.OK)
	if v.Place() != 2 {
		t.Error(v.Place())
	}
	takes(t, v, 2, true, true, api.OK)
	counts(t, v, 3, 2, 1, 0)
	if !v.Done() || v.Place() != 3 || len(v.Under()) != 0 {
		t.Error("Done")
	}
	asks(t, v)
}

// P28.1: a block that was written since waits again, whatever comes.
func TestWrote(t *testing.T) {
	s, _ := made(t, 1, 2, 3)
	v := begun(t, s, 0, 2, 1)
	v.Wrote(0)
	asks(t, v, 0)
	v.Wrote(0)
	v.Wrote(0)
	v.Wrote(1)
	v.Wrote(-1)
	v.Wrote(2)
	v.Wrote(99)
	if !slices.Equal(v.Under(), []int{0}) {
		t.Error(v.Under())
	}
	takes(t, v, 0, false, false, api.OK)
	counts(t, v, 1, 0, 0, 1)
	if len(marked(s)) != 0 || len(v.Found()) != 0 {
		t.Error("it is not found")
	}
	takes(t, v, 0, true, false, api.ErrNone)
	asks(t, v, 0)
	takes(t, v, 0, true, false, api.OK)
	v.Wrote(0)
	counts(t, v, 2, 1, 0, 1)
	asks(t, v, 1)
	takes(t, v, 1, true, true, api.OK)
}

// P28.1: what is lost waits again; also one that was written since.
func TestLost(t *testing.T) {
	s, _ := made(t, 1, 2, 3)
	v := begun(t, s, 0, 3, 2)
	asks(t, v, 0, 1)
	takes(t, v, 0, true, false, api.OK)
	v.Wrote(1)
	v.Lost()
	if len(v.Under()) != 0 || v.Place() != 1 {
		t.Error(v.Under(), v.Place())
	}
	takes(t, v, 1, true, false, api.ErrNone)
	asks(t, v, 1, 2)
	takes(t, v, 1, true, false, api.OK)
	takes(t, v, 2, true, true, api.OK)
	counts(t, v, 4, 3, 0, 0)
	v.Lost()
	if !v.Done() {
		t.Error("what is verified stays so")
	}
}

// P28.1: what Take and Asks refuse.
func TestErrors(t *testing.T) {
	s, d := made(t, 1, 2, 3, 4)
	v := begun(t, s, 1, 3, 2)
	asks(t, v, 1, 2)
	for _, m := range []api.Message{{}, {Kind: api.MsgVerify, Block: 1, Digest: make([]byte, 32)}, {Kind: api.MsgVerified, Block: 1, Num: 1}, {Kind: api.MsgVerified}, {Kind: api.MsgVerified, Block: 3}, {Kind: api.MsgVerified, Block: -1}, {Kind: api.MsgVerified, Block: 64}} {
		if done, e := v.Take(m); done || e != api.ErrArg {
			t.Error(m.Block, e)
		}
	}
	takes(t, v, 1, true, false, api.OK)
	takes(t, v, 1, true, false, api.ErrNone)
	v.Lost()
	d.Fail()
	if l, e := v.Asks(); len(l) != 0 || e != api.ErrIO || len(v.Under()) != 0 {
		t.Error(e)
	}
	counts(t, v, 2, 1, 0, 0)
}

// P28.1, P28.2: nil and zero ones.
func TestNil(t *testing.T) {
	s, _ := made(t, 1)
	for _, v := range []*verify.Verify{nil, {}} {
		l, e := v.Asks()
		done, f := v.Take(api.Message{})
		v.Wrote(0)
		v.Lost()
		n, g := verify.Carry(v, s, 5)
		if len(l) != 0 || e != api.ErrNil || done || f != api.ErrNil || n != 0 || g != api.ErrNil || v.Place() != 0 || len(v.Under()) != 0 || len(v.Found()) != 0 || v.Count() != (api.Checked{}) || v.Done() {
			t.Error("nil")
		}
	}
	for _, none := range []*store.Store{nil, {}} {
		_, e := verify.Carry(begun(t, s, 0, 1, 1), none, 5)
		_, f := verify.Both(s, none, 0)
		_, g := verify.Both(none, s, 0)
		_, h := verify.Differ(s, none)
		_, i := verify.Differ(none, s)
		_, j := verify.Mend(s, none, 0, true)
		_, k := verify.Mend(none, s, 0, true)
		for at, x := range []api.Errno{e, f, g, h, i, j, k} {
			if x != api.ErrNil {
				t.Error(at, x)
			}
		}
	}
}

// P28.3: carrying, up to so many answers.
func TestCarry(t *testing.T) {
	a, _ := made(t, 1, 2, 3, 4, 5)
	b, _ := made(t, 1, 9, 3, 9, 5)
	for _, x := range []struct{ most, came, asked int }{{-1, 0, 0}, {0, 0, 0}, {1, 1, 2}, {2, 2, 2}, {3, 3, 4}, {4, 4, 4}, {5, 5, 5}, {99, 5, 5}} {
		v := begun(t, a, 0, 5, 2)
		if n, e := verify.Carry(v, b, x.most); n != x.came || e != api.OK || v.Count().Asked != x.asked || len(v.Under()) != x.asked-x.came || v.Done() != (x.came == 5) {
			t.Error(x, n, e, v.Count())
		}
	}
	v := begun(t, a, 0, 5, 2)
	asks(t, v, 0, 1)
	if n, e := verify.Carry(v, b, 9); n != 0 || e != api.OK || !slices.Equal(v.Under(), []int{0, 1}) {
		t.Error("nothing is asked", n, e)
	}
	v.Lost()
	verify.Carry(v, b, 3)
	w := begun(t, a, v.Place(), 5, 1)
	if n, e := verify.Carry(w, b, 9); n != 2 || e != api.OK || !slices.Equal(append(v.Found(), w.Found()...), []int{1, 3}) {
		t.Error(n, e, v.Found(), w.Found())
	}
}

// P28.3: errors of both stores, and what came ahead stays.
func TestCarryErrors(t *testing.T) {
	a, da := made(t, 1, 2, 3, 4)
	b, db := made(t, 1, 9, 3, 9)
	small, _ := made(t, 1, 2)
	v := begun(t, a, 0, 4, 3)
	if n, e := verify.Carry(v, small, 9); n != 0 || e != api.ErrArg || v.Count().Same != 2 {
		t.Error(n, e, v.Count())
	}
	v = begun(t, a, 0, 4, 3)
	db.Fail()
	if n, e := verify.Carry(v, b, 9); n != 0 || e != api.ErrIO || len(v.Under()) != 3 {
		t.Error(n, e)
	}
	if l, e := verify.Both(a, b, 2); len(l) != 0 || e != api.ErrIO {
		t.Error(e)
	}
	if l, e := verify.Differ(a, b); len(l) != 0 || e != api.ErrIO {
		t.Error(e)
	}
	a.Map().Mark(1)
	if n, e := verify.Mend(a, b, 2, false); n != 0 || e != api.ErrIO {
		t.Error(n, e)
	}
	c, dc := made(t, 1, 2, 3, 4)
	c.Map().Mark(1)
	dc.Fuse(0)
	if n, e := verify.Mend(c, a, 2, false); n != 0 || e != api.ErrDead {
		t.Error(n, e)
	}
	if n, e := verify.Mend(c, a, 2, true); n != 0 || e != api.ErrDead {
		t.Error(n, e)
	}
	da.Fail()
	v = begun(t, a, 0, 4, 3)
	if n, e := verify.Carry(v, b, 9); n != 0 || e != api.ErrIO || v.Count().Asked != 0 {
		t.Error(n, e)
	}
}

// P28.3, P28.4: what Both, Differ, Mend refuse.
func TestArgs(t *testing.T) {
	a, _ := made(t, 1, 2, 3)
	b, _ := made(t, 1, 2)
	for _, n := range []int{-1, 0, 17} {
		l, e := verify.Both(a, a, n)
		k, f := verify.Mend(a, a, n, true)
		if len(l) != 0 || k != 0 || e != api.ErrArg || f != api.ErrArg {
			t.Error(n, e, f)
		}
	}
	_, e := verify.Both(a, b, 1)
	_, f := verify.Differ(b, a)
	n, g := verify.Mend(a, b, 1, true)
	if n != 0 || e != api.ErrArg || f != api.ErrArg || g != api.ErrArg {
		t.Error(e, f, g)
	}
}

// P28.4: the first error that is met: a's block ahead of b's.
func TestDifferErrors(t *testing.T) {
	a, da := made(t, 1, 2)
	b, db := made(t, 1, 2)
	da.Fuse(0)
	a.SaveMap()
	db.Fail()
	if _, e := verify.Differ(a, b); e != api.ErrDead {
		t.Error(e)
	}
	if _, e := verify.Differ(b, a); e != api.ErrIO {
		t.Error(e)
	}
}

// P28.5: Both finds just those that differ; behind it Mend makes both the same, and writes those alone.
func TestMend(t *testing.T) {
	for seed := range int64(60) {
		r := rand.New(rand.NewSource(seed))
		n := 1 + r.Intn(64)
		x, y := make([]byte, n), make([]byte, n)
		var want []int
		for i := range n {
			x[i], y[i] = byte(r.Intn(3)), byte(r.Intn(3))
			if x[i] != y[i] {
				want = append(want, i)
			}
		}
		a, _ := made(t, x...)
		b, _ := made(t, y...)
		if l, e := verify.Differ(a, b); !slices.Equal(l, want) || e != api.OK {
			t.Fatal(seed, l, e)
		}
		if l, e := verify.Both(a, b, 1+r.Intn(16)); !slices.Equal(l, want) || e != api.OK || !slices.Equal(marked(a), want) || len(marked(b)) != 0 {
			t.Fatal(seed, l, e)
		}
		if k, e := verify.Mend(a, b, 1+r.Intn(16), r.Intn(2) == 0); k != len(want) || e != api.OK || len(marked(a)) != 0 {
			t.Fatal(seed, k, e)
		}
		if l, e := verify.Differ(a, b); len(l) != 0 || e != api.OK {
			t.Fatal(seed, l, e)
		}
	}
}

// P28.4: Mend counts what was written: with digests not those that are the same.
func TestMendCounts(t *testing.T) {
	a, _ := made(t, 1, 2, 3)
	b, _ := made(t, 1, 9, 3)
	for _, x := range []struct {
		digests bool
		want    int
	}{{true, 1}, {false, 3}} {
		a.Write(1, of(2), false)
		a.Map().Fill()
		if n, e := verify.Mend(a, b, 2, x.digests); n != x.want || e != api.OK {
			t.Error(x, n, e)
		}
	}
	if n, e := verify.Mend(a, b, 2, true); n != 0 || e != api.OK {
		t.Error("nothing is marked", n, e)
	}
	one, _ := made(t, 1)
	other, _ := made(t, 2)
	if l, e := verify.Both(one, other, 1); !slices.Equal(l, []int{0}) || e != api.OK {
		t.Error("stores of one block", l, e)
	}
}

// P28.5: a block that is always written by both at once is never found; however often it is cut short, the same are found.
func TestCutShort(t *testing.T) {
	for seed := range int64(100) {
		r := rand.New(rand.NewSource(seed))
		n := 2 + r.Intn(20)
		x, y := make([]byte, n), make([]byte, n)
		var want []int
		for i := range n {
			x[i] = byte(r.Intn(3))
			y[i] = x[i]
			if i > 0 && r.Intn(3) == 0 {
				y[i]++
				want = append(want, i)
			}
		}
		a, _ := made(t, x...)
		b, _ := made(t, y...)
		var found []int
		place := 0
		for range 1000 {
			if place == n {
				break
			}
			v := begun(t, a, place, n, 1+r.Intn(4))
			for steps := r.Intn(6); steps >= 0 && !v.Done(); steps-- {
				l, _ := v.Asks()
				r.Shuffle(len(l), func(i, j int) { l[i], l[j] = l[j], l[i] })
				for _, m := range l {
					if r.Intn(4) == 0 { // the block 0 is written by both at once, the answer being on its way
						z := of(byte(r.Intn(200)))
						a.Write(0, z, false)
						v.Wrote(0)
						b.Write(0, z, false)
					}
					if r.Intn(5) == 0 {
						continue
					}
					k, _ := resync.Same(b, m)
					v.Take(k)
				}
				if r.Intn(2) == 0 {
					v.Lost()
				}
			}
			for _, i := range v.Found() {
				if !slices.Contains(found, i) {
					found = append(found, i)
				}
			}
			place = v.Place()
		}
		slices.Sort(found)
		if place != n || !slices.Equal(found, want) || !slices.Equal(marked(a), want) {
			t.Fatal(seed, place, found, want)
		}
	}
}
