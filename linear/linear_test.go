package linear_test

import (
	"math/rand"
	"slices"
	"testing"

	"gemel/api"
	"gemel/linear"
	"gemel/reserve"
	"gemel/world"
)

func of(x byte) api.Block { return api.Block{x} }

// row is a history, one call behind the other.
type row []api.Call

func (r row) with(c api.Command, a api.Answer, done bool) row {
	n := len(r) + 1
	c.Num, a.Num, a.Kind = uint64(n), uint64(n), c.Kind
	x := api.Call{Num: c.Num, Cmd: c, Seq: n, Done: done, Gone: -1}
	if done {
		x.Answer = a
	} else {
		x.Gone = n
	}
	return append(slices.Clone(r), x)
}

func (r row) does(c api.Command, a api.Answer) row { return r.with(c, a, true) }

func (r row) gone(c api.Command) row { return r.with(c, api.Answer{}, false) }

func (r row) code(c api.Command, e api.Errno) row { return r.does(c, api.Answer{Code: e}) }

func write(block int, x byte) api.Command {
	return api.Command{Kind: api.CmdWrite, Block: block, Data: of(x)}
}

func read(block int) api.Command { return api.Command{Kind: api.CmdRead, Block: block} }

func (r row) reads(block int, x byte) row { return r.does(read(block), api.Answer{Data: of(x)}) }

func (r row) writes(block int, x byte) row { return r.does(write(block, x), api.Answer{}) }

func action(who int, a api.Action) api.Command {
	return api.Command{Who: who, Kind: api.CmdPROut, Action: a}
}

func register(who int, key uint64) api.Command {
	return action(who, api.Action{Kind: api.ResIgnore, New: key})
}

func (r row) table(t api.Reserve) row {
	return r.does(api.Command{Kind: api.CmdPRIn}, api.Answer{Reserve: t})
}

func explained(t *testing.T, at int, r row, want bool) {
	t.Helper()
	e := linear.Explain(r, 8)
	if want && e != api.OK || !want && e != api.ErrState {
		t.Error(at, e)
	}
}

// P23.1: what Explain and Check refuse.
func TestErrors(t *testing.T) {
	twice := row{}.writes(0, 1).writes(0, 2)
	twice[1].Seq = 1
	for _, n := range []int{-1, 0, 65, 1 << 62} {
		if linear.Explain(nil, n) != api.ErrArg || linear.Explain(twice, n) != api.ErrArg {
			t.Error(n)
		}
	}
	if linear.Explain(twice, 8) != api.ErrArg || linear.Explain(nil, 1) != api.OK || linear.Explain(row{}, 64) != api.OK {
		t.Error("Explain")
	}
	none := row{}.reads(0, 1).reads(0, 2)
	none[0].Seq, none[1].Seq = 0, 0
	if linear.Explain(none, 8) != api.OK {
		t.Error("those with no Seq are left out")
	}
	none[0].Seq, none[1].Seq = -1, -1
	if linear.Explain(none, 8) != api.OK {
		t.Error("those below 0 are left out")
	}
	for _, w := range []*world.World{nil, {}} {
		if linear.Check(w) != api.ErrNil {
			t.Error("nil")
		}
	}
}

// P23.1: calls are gone through by rising Seq, however they stand.
func TestSorted(t *testing.T) {
	r := row{}.writes(0, 1).reads(0, 1).writes(0, 2).reads(0, 2)
	slices.Reverse(r)
	was := slices.Clone(r)
	explained(t, 0, r, true)
	for i := range r {
		if r[i].Num != was[i].Num {
			t.Error("the history is left as it is")
		}
	}
	r[0].Seq, r[2].Seq = 2, 4
	explained(t, 1, r, false)
}

// P23.1: reads and writes.
func TestReads(t *testing.T) {
	for i, x := range []struct {
		r    row
		want bool
	}{
		{row{}.reads(0, 0), true}, {row{}.reads(0, 1), false}, {row{}.writes(0, 1).reads(0, 1), true}, {row{}.writes(0, 1).reads(0, 0), false}, {row{}.writes(0, 1).reads(1, 1), false},
		{row{}.writes(0, 1).does(api.Command{Kind: api.CmdTrim}, api.Answer{}).reads(0, 0), true}, {row{}.writes(0, 1).does(api.Command{Kind: api.CmdZeroes}, api.Answer{}).reads(0, 1), false},
		{row{}.gone(write(0, 1)).reads(0, 1), true}, {row{}.gone(write(0, 1)).reads(0, 0), true}, {row{}.gone(write(0, 1)).reads(0, 1).reads(0, 0), false}, {row{}.gone(write(0, 1)).reads(0, 0).reads(0, 1), false}, {row{}.gone(write(0, 1)).reads(1, 0).reads(0, 1), true},
		{row{}.gone(write(0, 1)).gone(write(0, 2)).reads(0, 1), true}, {row{}.gone(write(0, 1)).gone(write(0, 2)).reads(0, 2).reads(0, 1), false}, {row{}.gone(write(0, 1)).gone(write(0, 2)).reads(0, 3), false},
		{row{}.gone(write(0, 1)).writes(0, 2).reads(0, 1), false}, {row{}.gone(write(0, 1)).writes(0, 2).reads(0, 2), true},
		{row{}.writes(0, 5).gone(api.Command{Kind: api.CmdTrim}).reads(0, 0), true}, {row{}.gone(read(0)).gone(api.Command{Kind: api.CmdFlush}).reads(0, 0), true}, {row{}.writes(0, 5).gone(read(0)).reads(0, 0), false}, {row{}.writes(0, 5).gone(register(0, 5)).reads(0, 0), false},
		{row{}.does(api.Command{Kind: api.CmdFlush}, api.Answer{}).reads(0, 0), true}, {row{}.writes(40, 1).reads(40, 1), true}, {row{}.writes(40, 1).reads(40, 2), false}, {row{}.reads(99, 7).reads(-1, 8).writes(99, 1), true},
	} {
		explained(t, i, x.r, x.want)
	}
}

// P23.1: what is answered with another Code.
func TestCodes(t *testing.T) {
	bad, good, far := api.Command{Kind: 9}, read(0), read(8)
	for i, x := range []struct {
		c    api.Command
		e    api.Errno
		want bool
	}{
		{bad, api.ErrArg, true}, {good, api.ErrArg, false}, {far, api.ErrArg, false}, {read(64), api.ErrArg, true}, {action(0, api.Action{Who: 1}), api.ErrArg, true},
		{far, api.ErrRange, true}, {read(63), api.ErrRange, true}, {read(7), api.ErrRange, false}, {read(64), api.ErrRange, false}, {bad, api.ErrRange, false}, {register(0, 1), api.ErrRange, false}, {api.Command{Kind: api.CmdFlush}, api.ErrRange, false},
		{good, api.ErrState, true}, {bad, api.ErrState, true}, {register(0, 1), api.ErrState, true}, {good, api.ErrIO, true}, {register(0, 1), api.ErrIO, true},
		{good, api.ErrConflict, false}, {api.Command{Kind: api.CmdPRIn}, api.ErrConflict, false}, {good, api.ErrFull, false}, {good, api.ErrNil, false}, {good, api.ErrBusy, false}, {good, -1, false}, {good, 99, false},
		{register(0, 1), api.ErrConflict, false}, {action(0, api.Action{Kind: api.ResRegister, Key: 5, New: 6}), api.ErrConflict, true}, {action(0, api.Action{Kind: 99}), api.ErrArg, true}, {api.Command{Kind: api.CmdPROut, Block: 1, Action: api.Action{Kind: api.ResIgnore, New: 1}}, api.ErrArg, true}, {register(0, 1), api.ErrArg, false}, {register(0, 1), api.ErrFull, false},
	} {
		explained(t, i, row{}.code(x.c, x.e), x.want)
	}
}

func do(t api.Reserve, c api.Command) api.Reserve {
	a := c.Action
	a.Who = c.Who
	then, _, _ := reserve.Do(t, a)
	return then
}

// P23.1: tables that may be.
func TestTables(t *testing.T) {
	a, b := register(0, 5), register(1, 7)
	one := do(api.Reserve{}, a)
	two := do(one, b)
	hold := action(0, api.Action{Kind: api.ResReserve, Key: 5, Type: api.ExclusiveAccess})
	held := do(two, hold)
	known := row{}.does(a, api.Answer{}).does(b, api.Answer{})
	by := func(who int, c api.Command) api.Command { c.Who = who; return c }
	for i, x := range []struct {
		r    row
		want bool
	}{
		{row{}.table(api.Reserve{}), true}, {row{}.table(one), false}, {row{}.does(a, api.Answer{}).table(one), true}, {row{}.does(a, api.Answer{}).table(api.Reserve{}), false}, {known.table(two), true},
		{row{}.gone(a).table(one), true}, {row{}.gone(a).table(api.Reserve{}), true}, {row{}.gone(a).table(one).table(api.Reserve{}), false}, {row{}.gone(a).table(two), false}, {row{}.gone(a).gone(b).table(do(api.Reserve{}, b)), true}, {row{}.gone(a).gone(b).table(two), true},
		{row{}.gone(hold).table(api.Reserve{}), true}, {row{}.does(hold, api.Answer{}), false}, {row{}.code(hold, api.ErrConflict), true}, {row{}.gone(a).does(hold, api.Answer{}), true}, {row{}.gone(a).does(hold, api.Answer{}).table(api.Reserve{}), false}, {row{}.gone(a).code(hold, api.ErrConflict).table(api.Reserve{}), true}, {row{}.gone(a).code(hold, api.ErrConflict).table(one), false},
		{known.does(hold, api.Answer{}).table(held), true}, {known.does(hold, api.Answer{}).code(by(1, read(0)), api.ErrConflict), true}, {known.does(hold, api.Answer{}).does(by(1, read(0)), api.Answer{}), false}, {known.does(hold, api.Answer{}).does(by(0, read(0)), api.Answer{}), true}, {known.does(hold, api.Answer{}).does(by(1, write(0, 1)), api.Answer{}), false}, {known.does(hold, api.Answer{}).does(api.Command{Who: 1, Kind: api.CmdFlush}, api.Answer{}), false},
		{known.code(action(0, api.Action{Kind: api.ResRegister, Key: 9}), api.ErrConflict).table(two), true}, {known.code(action(0, api.Action{Kind: api.ResRegister, Key: 9}), api.ErrConflict).table(api.Reserve{}), false},
		{known.gone(hold).code(by(1, read(0)), api.ErrConflict).table(held), true}, {known.gone(hold).code(by(1, read(0)), api.ErrConflict).table(two), false}, {known.gone(hold).does(by(1, read(0)), api.Answer{}).table(two), true}, {known.gone(hold).does(by(1, read(0)), api.Answer{}).table(held), false},
		{known.does(action(0, api.Action{Kind: api.ResPreempt, Key: 5, New: 7}), api.Answer{Out: []int{1}}), true}, {known.does(action(0, api.Action{Kind: api.ResPreempt, Key: 5, New: 7}), api.Answer{}), false},
	} {
		explained(t, i, x.r, x.want)
	}
}

// P23.1: many actions that are gone are not told apart more often than they are apart.
func TestManyGone(t *testing.T) {
	r := row{}.does(register(0, 5), api.Answer{})
	hold := action(0, api.Action{Kind: api.ResReserve, Key: 5, Type: 1})
	for range 500 {
		r = append(r, row{}.gone(hold)...)
		r[len(r)-1].Seq = len(r)
	}
	one := do(api.Reserve{}, register(0, 5))
	explained(t, 0, r.table(one), true)
	explained(t, 1, r.table(do(one, hold)), true)
	explained(t, 2, r.table(api.Reserve{}), false)
}

// P23.2: values, and what may have landed.
func TestValue(t *testing.T) {
	r := row{}.writes(3, 1).gone(write(3, 2)).gone(write(4, 9)).gone(write(3, 3))
	if v, l := linear.Value(r, 3); v != of(1) || !slices.Equal(l, []api.Block{of(2), of(3)}) {
		t.Error(v, l)
	}
	if v, l := linear.Value(r.reads(3, 3), 3); v != of(3) || len(l) != 0 {
		t.Error(v, l)
	}
	if v, l := linear.Value(r.reads(3, 7).writes(3, 8), 3); v != of(1) || len(l) != 2 {
		t.Error("up to ahead of the call that can't", v, l)
	}
	if v, l := linear.Value(r.code(read(9), api.ErrRange).writes(3, 8), 3); v != of(1) || len(l) != 2 {
		t.Error("of MaxBlocks", v, l)
	}
	twice := slices.Clone(r)
	twice[1].Seq = 1
	for _, x := range []struct {
		r     row
		block int
	}{{r, -1}, {r, 64}, {r, 1 << 62}, {twice, 3}, {nil, 0}} {
		if v, l := linear.Value(x.r, x.block); v != of(0) || len(l) != 0 {
			t.Error(x.block, v, l)
		}
	}
	_, l := linear.Value(r, 3)
	l[0] = of(99)
	if _, l := linear.Value(r, 3); l[0] != of(2) {
		t.Error("shared")
	}
}

// P23.3: a world's history is explained by one device, and one that is not any more is not.
func TestWorld(t *testing.T) {
	s := api.Stage{Setup: api.Setup{Blocks: 4, Hot: 1, Cap: 1, Window: 1, Protocol: api.ProtocolC, Fencing: api.Stonith, Policy: api.Policy{Zero: 1, One: 1, Two: 1}}, Draws: []uint64{5}}
	l := []api.Act{{Kind: api.ActTick}, {Kind: api.ActTick, Node: 1}, {Kind: api.ActCarryAll}, {Kind: api.ActAsk, Ask: api.AskPromote}, {Kind: api.ActCarryAll}}
	r := rand.New(rand.NewSource(1))
	for range 60 {
		c := write(r.Intn(5), byte(r.Intn(9)))
		if r.Intn(2) == 0 {
			c = read(r.Intn(5))
		}
		l = append(l, api.Act{Kind: api.ActCommand, Cmd: c})
		if r.Intn(3) == 0 {
			l = append(l, api.Act{Kind: api.ActCarryAll})
		}
	}
	l = append(l, api.Act{Kind: api.ActCommand, Cmd: write(2, 77)}, api.Act{Kind: api.ActCarryAll}, api.Act{Kind: api.ActCommand, Cmd: read(2)}, api.Act{Kind: api.ActCarryAll})
	w, _, _ := world.Run(s, l...)
	if e := linear.Check(w); e != api.OK {
		t.Error(e)
	}
	h := w.History()
	if last := &h[len(h)-1]; last.Answer.Data != of(77) {
		t.Error(last.Answer)
	} else {
		last.Answer.Data = of(78)
	}
	if linear.Explain(h, 4) != api.ErrState {
		t.Error("another one was read")
	}
}
