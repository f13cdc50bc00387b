package resync_test

import (
	"bytes"
	"crypto/sha256"
	"math/rand"
	"slices"
	"testing"

	"gemel/api"
	"gemel/disk"
	"gemel/message"
	"gemel/resync"
	"gemel/store"
)

func of(x byte) api.Block { return api.Block{x} }

func made(t *testing.T, blocks int) (*disk.Disk, *store.Store) {
	t.Helper()
	d, e := disk.New(store.Size(blocks))
	if e != api.OK {
		t.Fatal(e)
	}
	store.Format(d, blocks, api.Line{Current: 1}, api.UpToDate)
	s, e := store.Attach(d, blocks, 4)
	if e != api.OK {
		t.Fatal(e)
	}
	return d, s
}

func target(t *testing.T, s *store.Store, window int, digests bool) *resync.Target {
	t.Helper()
	x, e := resync.New(s, window, digests)
	if e != api.OK {
		t.Fatal(e)
	}
	return x
}

// asks holds the blocks that are asked for against those that should be.
func asks(t *testing.T, x *resync.Target, want ...int) []api.Message {
	t.Helper()
	l, e := x.Asks()
	var got []int
	for _, m := range l {
		got = append(got, m.Block)
		if m.Kind != api.MsgAsk || !message.May(m) {
			t.Error(m)
		}
	}
	if e != api.OK || !slices.Equal(got, want) {
		t.Error(got, e)
	}
	return l
}

func sync(block int, data api.Block) api.Message {
	return api.Message{Kind: api.MsgSync, Block: block, Data: data}
}

func takes(t *testing.T, x *resync.Target, m api.Message, done bool, e api.Errno) {
	t.Helper()
	if d, f := x.Take(m); d != done || f != e {
		t.Error(m.Block, d, f)
	}
}

func reads(t *testing.T, s *store.Store, block int, want byte) {
	t.Helper()
	if b, e := s.Read(block); b != of(want) || e != api.OK {
		t.Error(block, b[0], e)
	}
}

// P19.1: windows.
func TestNew(t *testing.T) {
	for _, s := range []*store.Store{nil, {}} {
		if x, e := resync.New(s, 0, true); x != nil || e != api.ErrNil {
			t.Error(e)
		}
	}
	d, s := made(t, 8)
	for _, n := range []int{-1, 0, 17, 1 << 62} {
		if x, e := resync.New(s, n, true); x != nil || e != api.ErrArg {
			t.Error(n, e)
		}
	}
	d.Fail()
	s.SaveMap()
	target(t, s, 1, true)
	target(t, s, 16, false)
}

// P19.1, P19.2: asking, rising, as many as the window lets; marks as they are each time.
func TestAsks(t *testing.T) {
	_, s := made(t, 16)
	x := target(t, s, 2, false)
	if asks(t, x); !x.Done() || x.Left() != 0 {
		t.Error("nothing is marked")
	}
	s.Map().Mark(3, 7, 9)
	for _, m := range asks(t, x, 3, 7) {
		if len(m.Digest) != 0 {
			t.Error("digests are not compared")
		}
	}
	asks(t, x)
	if s.Map().Mark(1); x.Left() != 4 || x.Done() || !slices.Equal(x.Under(), []int{3, 7}) {
		t.Error(x.Left(), x.Under())
	}
	takes(t, x, sync(7, of(5)), false, api.OK)
	reads(t, s, 7, 5)
	if s.Map().Has(7) || len(s.Hot()) != 0 {
		t.Error("it is not marked, and marks nothing")
	}
	asks(t, x, 1)
	takes(t, x, sync(7, of(6)), false, api.ErrNone)
	takes(t, x, sync(9, of(6)), false, api.ErrNone)
	reads(t, s, 7, 5)
	takes(t, x, sync(1, of(0)), false, api.OK)
	takes(t, x, sync(3, of(3)), false, api.OK)
	asks(t, x, 9)
	takes(t, x, sync(9, of(9)), true, api.OK)
	if !x.Done() || x.Left() != 0 || len(x.Under()) != 0 {
		t.Error("done")
	}
}

// P19.1: with digests, of the block as it is; of the same nothing is written.
func TestDigests(t *testing.T) {
	d, s := made(t, 8)
	s.Write(2, of(7), false)
	s.Map().Mark(2)
	x := target(t, s, 1, true)
	l := asks(t, x, 2)
	b := of(7)
	if want := sha256.Sum256(b[:]); !bytes.Equal(l[0].Digest, want[:]) || !bytes.Equal(resync.Digest(b), want[:]) {
		t.Error(l[0].Digest)
	}
	d.Fuse(0)
	takes(t, x, api.Message{Kind: api.MsgSync, Block: 2, Yes: true}, true, api.OK)
	if reads(t, s, 2, 7); d.Dead() {
		t.Error("nothing is written")
	}
}

// P19.2: a block that came otherwise.
func TestWrote(t *testing.T) {
	_, s := made(t, 8)
	s.Map().Mark(2, 3, 4)
	x := target(t, s, 1, false)
	asks(t, x, 2)
	x.Wrote(2)
	x.Wrote(3)
	x.Wrote(99)
	x.Wrote(-1)
	if x.Left() != 1 || !slices.Equal(x.Under(), []int{2}) || x.Done() {
		t.Error(x.Left(), x.Under())
	}
	asks(t, x)
	takes(t, x, sync(2, of(1)), false, api.OK)
	asks(t, x, 4)
	x.Wrote(4)
	if x.Done() {
		t.Error("one that was asked for stays so")
	}
	takes(t, x, sync(4, of(1)), true, api.OK)
}

// P19.1: what Take refuses, in order; what is refused changes nothing.
func TestTakeErrors(t *testing.T) {
	d, s := made(t, 8)
	s.Map().Mark(2)
	x := target(t, s, 1, false)
	asks(t, x, 2)
	for _, m := range []api.Message{{}, {Kind: api.MsgAsk, Block: 2}, {Kind: api.MsgSync, Block: 2, Num: 1}, {Kind: api.MsgSync, Block: 2, Yes: true, Data: of(1)}, {Kind: api.MsgSync, Block: 8}, {Kind: api.MsgSync, Block: 64}, {Kind: api.MsgSync, Block: -1}} {
		takes(t, x, m, false, api.ErrArg)
	}
	takes(t, x, sync(3, of(1)), false, api.ErrNone)
	d.Fail()
	takes(t, x, sync(3, of(1)), false, api.ErrNone)
	takes(t, x, sync(2, of(1)), false, api.ErrIO)
	if !slices.Equal(x.Under(), []int{2}) || x.Left() != 1 {
		t.Error("changed")
	}
	takes(t, x, api.Message{Kind: api.MsgSync, Block: 2, Yes: true}, true, api.OK)
	s.Map().Mark(5)
	if l, e := target(t, s, 1, true).Asks(); len(l) != 0 || e != api.ErrIO {
		t.Error(e)
	}
	y := target(t, s, 1, true)
	if y.Asks(); len(y.Under()) != 0 {
		t.Error("nothing is asked for")
	}
	if l, e := target(t, s, 1, false).Asks(); len(l) != 1 || e != api.OK {
		t.Error("a store that is broken, where it is not read", e)
	}
}

// P19.3: a source's answers.
func TestAnswer(t *testing.T) {
	d, s := made(t, 8)
	s.Write(2, of(7), false)
	same, other := resync.Digest(of(7)), resync.Digest(of(8))
	for i, x := range []struct{ ask, want api.Message }{
		{api.Message{Kind: api.MsgAsk, Block: 2}, sync(2, of(7))}, {api.Message{Kind: api.MsgAsk, Block: 2, Digest: other}, sync(2, of(7))}, {api.Message{Kind: api.MsgAsk, Block: 2, Digest: same}, api.Message{Kind: api.MsgSync, Block: 2, Yes: true}},
		{api.Message{Kind: api.MsgAsk, Block: 7}, sync(7, of(0))},
	} {
		if m, e := resync.Answer(s, x.ask); !message.Same(m, x.want) || e != api.OK || !message.May(m) {
			t.Error(i, m, e)
		}
	}
	for i, digest := range [][]byte{same, other} {
		m, e := resync.Same(s, api.Message{Kind: api.MsgVerify, Block: 2, Digest: digest})
		if !message.Same(m, api.Message{Kind: api.MsgVerified, Block: 2, Yes: i == 0}) || e != api.OK {
			t.Error(i, m, e)
		}
	}
	for _, none := range []*store.Store{nil, {}} {
		_, e := resync.Answer(none, api.Message{})
		_, f := resync.Same(none, api.Message{})
		if e != api.ErrNil || f != api.ErrNil {
			t.Error(e, f)
		}
	}
	d.Fail()
	for i, m := range []api.Message{{}, {Kind: api.MsgVerify, Block: 2, Digest: same}, {Kind: api.MsgAsk, Block: 8}, {Kind: api.MsgAsk, Block: -1}, {Kind: api.MsgAsk, Digest: []byte{1}}} {
		if x, e := resync.Answer(s, m); e != api.ErrArg || !message.Same(x, api.Message{}) {
			t.Error(i, e)
		}
	}
	for i, m := range []api.Message{{}, {Kind: api.MsgAsk, Block: 2, Digest: same}, {Kind: api.MsgVerify, Block: 8, Digest: same}, {Kind: api.MsgVerify, Block: 2}} {
		if x, e := resync.Same(s, m); e != api.ErrArg || !message.Same(x, api.Message{}) {
			t.Error(i, e)
		}
	}
	if x, e := resync.Answer(s, api.Message{Kind: api.MsgAsk, Block: 2}); e != api.ErrIO || !message.Same(x, api.Message{}) {
		t.Error(e)
	}
	if _, e := resync.Same(s, api.Message{Kind: api.MsgVerify, Block: 2, Digest: same}); e != api.ErrIO {
		t.Error(e)
	}
}

// P19.1, P19.2: nil and zero targets.
func TestNil(t *testing.T) {
	for _, x := range []*resync.Target{nil, {}} {
		l, e := x.Asks()
		done, f := x.Take(api.Message{})
		x.Wrote(1)
		if len(l) != 0 || e != api.ErrNil || done || f != api.ErrNil || x.Left() != 0 || len(x.Under()) != 0 || x.Done() {
			t.Error("nil")
		}
	}
}

// P19.4: both come to an end; then the marked blocks are the source's; no other one was written.
func TestCarried(t *testing.T) {
	for seed := range int64(100) {
		r := rand.New(rand.NewSource(seed))
		n := 1 + r.Intn(64)
		_, from := made(t, n)
		_, to := made(t, n)
		var want []api.Block
		marked := 0
		for i := range n {
			a, b := of(byte(r.Intn(3))), of(byte(r.Intn(3)))
			from.Write(i, a, false)
			to.Write(i, b, false)
			if r.Intn(2) == 0 {
				to.Map().Mark(i)
				marked++
				b = a
			}
			want = append(want, b)
		}
		x := target(t, to, 1+r.Intn(16), r.Intn(2) == 0)
		var way []api.Message
		done := marked == 0
		for steps := 0; !done; steps++ {
			l, _ := x.Asks()
			way = append(way, l...)
			if len(way) == 0 || steps > 200 {
				t.Fatal(seed, "it hangs")
			}
			at := r.Intn(len(way))
			m, _ := resync.Answer(from, way[at])
			way = slices.Delete(way, at, at+1)
			done, _ = x.Take(m)
			if done && len(way) > 0 {
				t.Fatal(seed, "done too early")
			}
		}
		for i := range n {
			if b, _ := to.Read(i); b != want[i] {
				t.Fatal(seed, i)
			}
		}
		if to.Map().Len() != 0 {
			t.Fatal(seed)
		}
	}
}
