package world_test

import (
	"math/rand"
	"reflect"
	"slices"
	"testing"

	"gemel/api"
	"gemel/arbiter"
	"gemel/node"
	"gemel/store"
	"gemel/world"
)

func stage(draws ...uint64) api.Stage {
	return api.Stage{Setup: api.Setup{Blocks: 8, Hot: 2, Cap: 2, Window: 2, Digests: true, Protocol: api.ProtocolC, Fencing: api.Stonith, Policy: api.Policy{Zero: 1, One: 1, Two: 1}}, Draws: draws}
}

func of(x byte) api.Block { return api.Block{x} }

var all = api.Act{Kind: api.ActCarryAll}

func tick(i int) api.Act { return api.Act{Kind: api.ActTick, Node: i} }

func ask(i int, a api.Ask) api.Act { return api.Act{Kind: api.ActAsk, Node: i, Ask: a} }

func on(i int) api.Act { return api.Act{Kind: api.ActOn, Node: i} }

func off(i int, picks ...int) api.Act { return api.Act{Kind: api.ActOff, Node: i, Picks: picks} }

func fuse(i, n int) api.Act { return api.Act{Kind: api.ActFuse, Node: i, N: n} }

func write(i, block int, x byte) api.Act {
	return api.Act{Kind: api.ActCommand, Node: i, Cmd: api.Command{Num: 99, Kind: api.CmdWrite, Block: block, Data: of(x)}}
}

func read(i, block int) api.Act {
	return api.Act{Kind: api.ActCommand, Node: i, Cmd: api.Command{Kind: api.CmdRead, Block: block}}
}

func run(t *testing.T, s api.Stage, l ...api.Act) *world.World {
	t.Helper()
	w, told, e := world.Run(s, l...)
	if e != api.OK || len(told) != len(l) {
		t.Fatal(e)
	}
	for i, e := range told {
		if e != api.OK {
			t.Error(i, l[i].Kind, e)
		}
	}
	return w
}

func does(t *testing.T, w *world.World, l ...api.Act) {
	t.Helper()
	for i, a := range l {
		if e := w.Do(a); e != api.OK {
			t.Error(i, a.Kind, e)
		}
	}
}

// met lets two be Connected.
var met = []api.Act{tick(0), tick(1), all}

// reign lets node 0 be Primary.
var reign = append(slices.Clone(met), ask(0, api.AskPromote), all)

func times(n int, l ...api.Act) []api.Act {
	var out []api.Act
	for range n {
		out = append(out, l...)
	}
	return out
}

// P21.1: what stages may be.
func TestNew(t *testing.T) {
	bad := stage()
	bad.Setup.Hot = 0
	for _, s := range []api.Stage{{}, bad, stage(make([]uint64, 1001)...)} {
		if w, e := world.New(s); w != nil || e != api.ErrArg {
			t.Error(e)
		}
		if w, l, e := world.Run(s, tick(0)); w != nil || len(l) != 0 || e != api.ErrArg {
			t.Error(e)
		}
	}
	if _, e := world.New(stage(make([]uint64, 1000)...)); e != api.OK {
		t.Error(e)
	}
	w := run(t, stage(7))
	v := w.View()
	if v != (api.View{Up: [2]bool{true, true}, Role: [2]api.Role{1, 1}, State: [2]api.State{4, 4}, Conn: [2]api.Conn{2, 2}, Grant: -1}) {
		t.Error(v)
	}
	for i := range 2 {
		x := w.Node(i).Store().Super()
		if x.Line != (api.Line{Current: 7}) || x.State != api.UpToDate || w.Disk(i).Blocks() != 17 {
			t.Error(i, x)
		}
	}
	if w.Acts() != 0 || len(w.Net()) != 0 || w.Waiting() != 0 || len(w.History()) != 0 || len(w.Seen()) != 0 || len(w.Log()) != 0 || w.Arbiter().Len() != 0 {
		t.Error("nothing happened")
	}
}

// P21.1: draws, and what stands behind their end.
func TestDraws(t *testing.T) {
	for _, x := range []struct {
		draws       []uint64
		first, born uint64
	}{{nil, 1<<40 + 1, 1<<40 + 2}, {[]uint64{5}, 5, 1<<40 + 2}, {[]uint64{5, 6}, 5, 6}, {[]uint64{5, 6, 7}, 5, 6}} {
		w := run(t, stage(x.draws...), ask(0, api.AskPromote))
		if l := w.Node(0).Store().Super().Line; l != (api.Line{Current: x.born, Base: x.first}) {
			t.Error(x, l)
		}
	}
	w := run(t, stage(5, 6, 7), ask(0, api.AskForce), ask(1, api.AskForce))
	if l := w.Node(1).Store().Super().Line; l.Current != 7 {
		t.Error(l)
	}
	w = run(t, stage(5, 6), tick(0), tick(0), ask(0, api.AskForce))
	if l := w.Node(0).Store().Super().Line; l.Current != 1<<40+3 {
		t.Error("a link's nonce is a draw", l)
	}
}

// P21.1: what acts are refused by; the clock counts them, and the log has them.
func TestRefused(t *testing.T) {
	w := run(t, stage(5), off(1))
	for i, x := range []struct {
		a api.Act
		e api.Errno
	}{
		{api.Act{}, api.ErrArg}, {api.Act{Kind: 11}, api.ErrArg}, {api.Act{Kind: -1}, api.ErrArg},
		{tick(2), api.ErrArg}, {tick(-1), api.ErrArg}, {read(2, 0), api.ErrArg}, {on(2), api.ErrArg}, {off(-1), api.ErrArg}, {api.Act{Kind: api.ActFail, Node: 2}, api.ErrArg}, {api.Act{Kind: api.ActBlank, Node: 2}, api.ErrArg}, {fuse(2, 1), api.ErrArg}, {fuse(1, -1), api.ErrArg},
		{ask(0, 0), api.ErrArg}, {ask(0, 10), api.ErrArg}, {ask(1, 10), api.ErrArg}, {ask(2, 1), api.ErrArg},
		{api.Act{Kind: api.ActCarry, Node: 7}, api.ErrNone}, {api.Act{Kind: api.ActCarryAll, Node: 7}, api.OK},
		{tick(1), api.ErrState}, {read(1, 0), api.ErrState}, {ask(1, api.AskPromote), api.ErrState}, {off(1), api.ErrState}, {on(0), api.ErrState}, {api.Act{Kind: api.ActBlank}, api.ErrState},
		{fuse(1, 0), api.OK}, {api.Act{Kind: api.ActFail, Node: 1}, api.OK}, {api.Act{Kind: api.ActBlank, Node: 1}, api.OK},
		{api.Act{Kind: api.ActTick, Node: 0, N: -5, Ask: 99}, api.OK}, {ask(0, api.AskVerify), api.OK},
	} {
		if e := w.Do(x.a); e != x.e {
			t.Error(i, e)
		}
		if w.Acts() != i+2 || !reflect.DeepEqual(w.Log()[i+1], x.a) {
			t.Error(i, w.Acts())
		}
	}
	if len(w.History()) != 0 || w.View().Up != [2]bool{true, false} {
		t.Error("what is refused changes nothing")
	}
}

// P21.1: a net that is full.
func TestFull(t *testing.T) {
	w := run(t, stage(5), tick(0), tick(0))
	for len(w.Net()) < 2 {
		t.Fatal("a Hello for each tick")
	}
	for i := 2; i < api.MaxNet; i++ {
		w.Do(tick(0))
	}
	acts := w.Acts()
	for i, a := range []api.Act{tick(0), all, off(0), on(0), {Kind: api.ActFail}} {
		if e := w.Do(a); e != api.ErrFull {
			t.Error(i, e)
		}
	}
	if w.Do(api.Act{}) != api.ErrArg || w.Do(tick(3)) != api.ErrArg || w.Do(fuse(0, -1)) != api.ErrArg || w.Acts() != acts+8 {
		t.Error("ErrArg is ahead")
	}
}

// P21.1: two that are Connected, and the net.
func TestNet(t *testing.T) {
	w := run(t, stage(5), tick(0), tick(1))
	if n := w.Net(); len(n) != 2 || n[0].To != 1 || n[1].To != 0 || w.Waiting() != 2 {
		t.Error(len(n))
	}
	n := w.Net()
	n[0].Bytes[0] ^= 1
	does(t, w, all)
	if v := w.View(); v.Conn != [2]api.Conn{4, 4} || w.Waiting() != 0 {
		t.Error(v, w.Waiting())
	}
	w = run(t, stage(5), tick(0), tick(0), tick(1), tick(1))
	for i, x := range []struct{ n, waiting int }{{1, 4}, {1, 5}, {-1, 6}, {7, 7}} {
		does(t, w, api.Act{Kind: api.ActCarry, N: x.n})
		if w.Waiting() != x.waiting {
			t.Error(i, w.Waiting(), len(w.Net()))
		}
	}
	w = run(t, stage(5), tick(0), off(1), api.Act{Kind: api.ActCarry, N: -1 << 63})
	if w.Waiting() != 0 || len(w.Net()) != 1 {
		t.Error("one without power gets nothing, but it was carried")
	}
}

// P21.1: ActCarryAll carries at most MaxCarry.
func TestCarryAll(t *testing.T) {
	w := run(t, stage(5), off(1))
	does(t, w, times(1500, tick(0))...)
	does(t, w, all)
	if w.Waiting() != 500 {
		t.Error(w.Waiting())
	}
	does(t, w, api.Act{Kind: api.ActCarry, N: 1200}, all)
	if w.Waiting() != 0 {
		t.Error(w.Waiting())
	}
}

// P21.1, P21.2: commands, their numbers, and the history.
func TestHistory(t *testing.T) {
	w := run(t, stage(5), reign...)
	does(t, w, write(0, 3, 7), read(0, 3), read(1, 3), read(0, 9), all)
	h := w.History()
	want := []struct{ from, to, seq int }{{5, 9, 3}, {6, 9, 4}, {7, 7, 1}, {8, 8, 2}}
	for i, c := range h {
		if c.Num != uint64(i+1) || c.Cmd.Num != c.Num || !c.Done || c.Gone != -1 || c.From != want[i].from || c.To != want[i].to || c.Seq != want[i].seq || c.Answer.Num != c.Num {
			t.Error(i, c.Num, c.From, c.To, c.Seq)
		}
	}
	if h[1].Answer.Data != of(7) || h[2].Answer.Code != api.ErrState || h[2].Node != 1 || h[3].Answer.Code != api.ErrRange || h[0].Cmd.Data != of(7) {
		t.Error(h[1].Answer.Code, h[2].Answer.Code, h[3].Answer.Code)
	}
	does(t, w, write(0, 1, 1), write(0, 1, 2), off(0), on(0))
	h = w.History()
	for i := 4; i < 6; i++ {
		if c := h[i]; c.Done || c.Gone != 12 || c.Seq != i+1 || c.To != 0 || c.Answer.Num != 0 {
			t.Error(i, c.Gone, c.Seq)
		}
	}
	does(t, w, write(0, 1, 1))
	if c := w.History()[6]; c.Num != 7 || c.Seq != 7 || c.Answer.Code != api.ErrState {
		t.Error(c.Num, c.Seq)
	}
	w = run(t, stage(5), append(slices.Clone(reign), write(0, 3, 7))...)
	if c := w.History()[0]; c.Done || c.Gone != -1 || c.Seq != 0 {
		t.Error("it still can be answered")
	}
}

// P21.1, P21.2: what a node dropped is gone, as its power is.
func TestDropped(t *testing.T) {
	w := run(t, stage(5), reign...)
	does(t, w, write(0, 3, 7), read(0, 3), api.Act{Kind: api.ActFail})
	does(t, w, append(times(7, tick(0)), write(0, 4, 7), tick(0))...)
	h := w.History()
	if v := w.View(); v.Up != [2]bool{true, true} || v.Role != [2]api.Role{1, 1} || v.State[0] != api.Diskless {
		t.Error(v)
	}
	for i, c := range h {
		if c.Done || c.Gone != 16 || c.Seq != i+1 {
			t.Error(i, c.Done, c.Gone, c.Seq)
		}
	}
}

// P21.1: a disk that dies takes its node's power away; what it told in this step is nothing.
func TestDead(t *testing.T) {
	w := run(t, stage(5), reign...)
	before := len(w.Net())
	does(t, w, fuse(0, 2), api.Act{Kind: api.ActCommand, Cmd: api.Command{Kind: api.CmdWrite, Block: 3, Data: of(7)}, Picks: []int{1}})
	if v := w.View(); v.Up[0] || v.Role[0] != 0 || v.State[0] != 0 || v.Conn[0] != 0 || len(w.Net()) != before {
		t.Error(v)
	}
	if w.Disk(0).Dead() || w.Node(0) != nil {
		t.Error("its power goes")
	}
	s := w.Seen()
	last := s[len(s)-1]
	if last.Act != 6 || last.Node != 0 || len(last.Made) != 1 || last.Made[0] != (api.Entry{Num: 1, Block: 3, Data: of(7)}) || last.Before.Role[0] != api.Primary || last.After.Role[0] != 0 {
		t.Error(last)
	}
	if c := w.History()[0]; c.Done || c.Gone != 6 {
		t.Error(c)
	}
	does(t, w, on(0))
	if x := w.Node(0).Store().Super(); !x.Crashed {
		t.Error(x)
	}
	// As it comes up: it marks what was hot, and dies of that.
	does(t, w, off(0), fuse(0, 0))
	if e := w.Do(on(0)); e != api.ErrDead || w.Node(0) != nil || w.Disk(0).Dead() {
		t.Error(e)
	}
	does(t, w, on(0))
}

// P21.1: picks are a loss of power's, whoever's it is.
func TestPicks(t *testing.T) {
	for _, pick := range []int{0, 1} {
		w := run(t, stage(5), reign...)
		does(t, w, fuse(0, 3))
		a := write(0, 3, 7)
		a.Picks = []int{pick}
		does(t, w, a)
		if b, _ := w.Disk(0).Read(12); b != of(byte(7*pick)) {
			t.Error(pick, b[0])
		}
	}
}

// P21.1: who tells a fence has the other one's power taken away.
func TestFence(t *testing.T) {
	w := run(t, stage(5), reign...)
	does(t, w, write(0, 3, 7))
	does(t, w, times(8, tick(1))...)
	if v := w.View(); v.Up != [2]bool{true, true} || v.Role[0] != api.Primary {
		t.Error(v)
	}
	does(t, w, ask(1, api.AskPromote))
	v := w.View()
	if v.Up != [2]bool{false, true} || v.Role != [2]api.Role{0, 2} || v.Grant != 1 {
		t.Error(v)
	}
	if c := w.History()[0]; c.Gone != w.Acts()-1 {
		t.Error(c.Gone)
	}
	s := w.Seen()
	last := s[len(s)-1]
	if !last.Fence || last.Node != 1 || len(last.Born) != 1 || !slices.Equal(last.Done, []api.Done{{What: api.AskPromote}}) || len(last.Image) != 8 || last.Before.Role[0] != api.Primary || last.After.Up[0] {
		t.Error(last)
	}
	does(t, w, ask(1, api.AskDemote), ask(1, api.AskPromote))
	if last := w.Seen()[len(w.Seen())-1]; !last.Fence {
		t.Error("the other one is without power already")
	}
}

// P21.2: what is seen, and what is not.
func TestSeen(t *testing.T) {
	w := run(t, stage(5), reign...)
	s := w.Seen()
	var kinds [][2]int
	for _, x := range s {
		kinds = append(kinds, [2]int{x.Act, x.Node})
	}
	if len(s) != 3 || len(s[0].Met) != 1 || len(s[1].Met) != 1 || s[0].Act != 2 || s[1].Act != 2 {
		t.Fatal(kinds)
	}
	last := s[2]
	if last.Act != 4 || last.Node != 0 || last.Before.Role != [2]api.Role{1, 1} || last.After.Role != [2]api.Role{2, 1} || len(last.Image) != 8 || !slices.Equal(last.Done, []api.Done{{What: api.AskPromote}}) || last.Fence {
		t.Error(last)
	}
	does(t, w, read(0, 1), off(1), on(1), tick(0))
	if len(w.Seen()) != 3 {
		t.Error("nothing was told")
	}
	does(t, w, ask(0, api.AskConnect), write(0, 2, 9))
	if s = w.Seen(); len(s) != 5 || s[3].Done[0].Code != api.ErrState || len(s[3].Image) != 0 || s[4].Made[0].Block != 2 {
		t.Error(len(s))
	}
}

// P21.2: an image are the blocks of who became Primary.
func TestImage(t *testing.T) {
	w := run(t, stage(5), reign...)
	does(t, w, write(0, 2, 9), all, off(0))
	does(t, w, append(times(8, tick(1)), ask(1, api.AskPromote))...)
	s := w.Seen()
	image := s[len(s)-1].Image
	for i, b := range image {
		if b != of([]byte{0, 0, 9, 0, 0, 0, 0, 0}[i]) {
			t.Error(i, b[0])
		}
	}
	if len(image) != 8 {
		t.Error(len(image))
	}
}

// P21.2: what is answered is the caller's, and what was handed in stays the caller's.
func TestShares(t *testing.T) {
	s := stage(5, 6)
	picks := []int{1, 2}
	w := run(t, s, reign...)
	does(t, w, off(1, picks...), api.Act{Kind: api.ActCommand, Cmd: api.Command{Kind: api.CmdPRIn}})
	s.Draws[0], picks[0] = 99, 99
	if w.Stage().Draws[0] != 5 || w.Log()[5].Picks[0] != 1 {
		t.Error("kept")
	}
	w.Stage().Draws[0] = 99
	w.Log()[5].Picks[0] = 99
	w.Seen()[0].Met[0].Own.Table[0] = 99
	w.Seen()[2].Done[0].What = 99
	w.Seen()[2].Image[0] = of(99)
	w.Net()[0].Bytes[0] = 99
	w.History()[0].Seq = 99
	if w.Stage().Draws[0] != 5 || w.Log()[5].Picks[0] != 1 || w.Seen()[0].Met[0].Own.Table[0] == 99 || w.Seen()[2].Done[0].What == 99 || w.Seen()[2].Image[0] == of(99) || w.Net()[0].Bytes[0] == 99 || w.History()[0].Seq == 99 {
		t.Error("shared")
	}
}

// P21.2: nil and zero worlds.
func TestNil(t *testing.T) {
	for _, w := range []*world.World{nil, {}} {
		if w.Do(tick(0)) != api.ErrNil || w.Do(api.Act{}) != api.ErrNil || w.Node(0) != nil || w.Disk(0) != nil || w.Arbiter() != (*arbiter.Arbiter)(nil) || len(w.Net()) != 0 || w.Waiting() != 0 || len(w.History()) != 0 || len(w.Seen()) != 0 || w.View() != (api.View{}) || w.Acts() != 0 || len(w.Log()) != 0 || len(w.Stage().Draws) != 0 || w.Copy() != nil {
			t.Error("nil")
		}
	}
	w := run(t, stage(5))
	for _, i := range []int{-1, 2, 1 << 62} {
		if w.Node(i) != (*node.Node)(nil) || w.Disk(i) != nil {
			t.Error(i)
		}
	}
}

// some is a script of many acts of all kinds.
func some(seed int64, n int) (api.Stage, []api.Act) {
	r := rand.New(rand.NewSource(seed))
	s := stage()
	s.Setup.Protocol = api.Protocol(1 + r.Intn(3))
	s.Setup.Fencing = api.Fencing(1 + r.Intn(3))
	s.Setup.Digests = r.Intn(2) == 0
	for range r.Intn(30) {
		s.Draws = append(s.Draws, uint64(1+r.Intn(1000)))
	}
	var l []api.Act
	for range n {
		a := api.Act{Kind: []api.ActKind{1, 1, 1, 2, 2, 3, 3, 3, 4, 5, 6, 6, 7, 8, 9, 10, 10, 10, 10}[r.Intn(19)], Node: r.Intn(2), N: r.Intn(40), Ask: api.Ask(1 + r.Intn(9)), Picks: []int{r.Intn(3), r.Intn(3)}}
		if a.Kind == api.ActFail && r.Intn(3) > 0 {
			a.Kind = api.ActTick
		}
		a.Cmd = api.Command{Who: r.Intn(3), Kind: api.CmdKind(1 + r.Intn(7))}
		switch a.Cmd.Kind {
		case api.CmdRead, api.CmdTrim, api.CmdZeroes, api.CmdWrite:
			a.Cmd.Block = r.Intn(9)
			if a.Cmd.Kind == api.CmdWrite {
				a.Cmd.Data = of(byte(1 + r.Intn(200)))
			}
		case api.CmdPROut:
			a.Cmd.Action = api.Action{Kind: api.ResKind(1 + r.Intn(6)), Key: uint64(r.Intn(3)), New: uint64(r.Intn(3)), Type: api.ResType(r.Intn(7))}
		}
		l = append(l, a)
	}
	return s, l
}

func same(a, b *world.World) bool {
	return reflect.DeepEqual(a.Net(), b.Net()) && reflect.DeepEqual(a.History(), b.History()) && reflect.DeepEqual(a.Seen(), b.Seen()) && a.View() == b.View() && a.Acts() == b.Acts() && a.Waiting() == b.Waiting() && a.Disk(0).Same(b.Disk(0)) && a.Disk(1).Same(b.Disk(1)) && a.Arbiter().Same(b.Arbiter()) && reflect.DeepEqual(a.Log(), b.Log()) && reflect.DeepEqual(a.Stage(), b.Stage())
}

// P21.3: twice run, all is the same; P21.2: a copy is as its world, and goes on apart.
func TestTwice(t *testing.T) {
	for seed := range int64(25) {
		s, l := some(seed, 250)
		a, told, e := world.Run(s, l...)
		b, again, f := world.Run(s, l...)
		if e != api.OK || f != api.OK || !slices.Equal(told, again) || !same(a, b) {
			t.Fatal(seed, "twice")
		}
		c := a.Copy()
		if !same(a, c) {
			t.Fatal(seed, "Copy")
		}
		_, more := some(seed+1000, 50)
		for _, x := range more {
			if c.Do(x) != b.Do(x) {
				t.Fatal(seed, "errors")
			}
		}
		if !same(b, c) || a.Acts() != 250 || same(a, c) {
			t.Fatal(seed, "apart")
		}
	}
}

// P21.1: the history's sequence leaves no number out, and none of what is gone was answered.
func TestSequence(t *testing.T) {
	for seed := range int64(40) {
		s, l := some(seed, 400)
		w, _, _ := world.Run(s, l...)
		var seqs []int
		for i, c := range w.History() {
			switch {
			case c.Num != uint64(i+1), c.Done && (c.Gone != -1 || c.To < c.From), !c.Done && c.Answer.Num != 0, (c.Seq > 0) != (c.Done || c.Gone >= 0):
				t.Fatal(seed, i, c.Done, c.Gone, c.Seq)
			case c.Seq > 0:
				seqs = append(seqs, c.Seq)
			}
		}
		slices.Sort(seqs)
		for i, n := range seqs {
			if n != i+1 {
				t.Fatal(seed, seqs)
			}
		}
		under := 0
		for i := range 2 {
			under += w.Node(i).Under()
		}
		if under+len(seqs) != len(w.History()) {
			t.Fatal(seed, under)
		}
	}
}

// P21.1: a blank disk, in the place of one that no node has.
func TestBlank(t *testing.T) {
	w := run(t, stage(5), met...)
	does(t, w, off(1), api.Act{Kind: api.ActFail, Node: 1}, api.Act{Kind: api.ActBlank, Node: 1}, on(1))
	if w.Node(1).State() != api.Inconsistent {
		t.Error(w.Node(1).State())
	}
	does(t, w, ask(1, api.AskDetach), api.Act{Kind: api.ActBlank, Node: 1})
	if _, e := store.Attach(w.Disk(1), 8, 2); e != api.ErrNone {
		t.Error(e)
	}
}
