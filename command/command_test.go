package command_test

import (
	"bytes"
	"slices"
	"testing"

	"gemel/api"
	"gemel/command"
	"gemel/reserve"
)

func good() []api.Command {
	x := api.Block{5, 255: 6}
	return []api.Command{
		{Num: 1<<64 - 1, Who: 15, Kind: api.CmdRead, Block: 63}, {Kind: api.CmdRead},
		{Num: 258, Who: 3, Kind: api.CmdWrite, Block: 7, Data: x}, {Kind: api.CmdWrite},
		{Kind: api.CmdFlush}, {Num: 9, Who: 1, Kind: api.CmdFlush},
		{Kind: api.CmdTrim, Block: 5}, {Kind: api.CmdZeroes, Block: 5},
		{Kind: api.CmdPRIn, Who: 2},
		{Kind: api.CmdPROut}, {Kind: api.CmdPROut, Who: 4, Action: api.Action{Kind: 255, Key: 258, New: 1 << 63, Type: 255}},
	}
}

func bad() []api.Command {
	x := api.Block{1}
	return []api.Command{
		{}, {Kind: 8}, {Kind: -1}, {Kind: 257}, {Kind: api.CmdRead, Who: -1}, {Kind: api.CmdRead, Who: 16}, {Kind: api.CmdRead, Block: -1}, {Kind: api.CmdRead, Block: 64},
		{Kind: api.CmdRead, Data: x}, {Kind: api.CmdRead, Action: api.Action{Key: 1}}, {Kind: api.CmdWrite, Block: 64}, {Kind: api.CmdWrite, Action: api.Action{Kind: 1}},
		{Kind: api.CmdFlush, Block: 1}, {Kind: api.CmdFlush, Data: x}, {Kind: api.CmdFlush, Action: api.Action{New: 1}}, {Kind: api.CmdFlush, Block: -1},
		{Kind: api.CmdTrim, Data: x}, {Kind: api.CmdTrim, Block: 64}, {Kind: api.CmdZeroes, Data: x}, {Kind: api.CmdZeroes, Action: api.Action{Type: 1}},
		{Kind: api.CmdPRIn, Block: 1}, {Kind: api.CmdPRIn, Action: api.Action{Key: 1}}, {Kind: api.CmdPROut, Block: 1}, {Kind: api.CmdPROut, Data: x},
		{Kind: api.CmdPROut, Action: api.Action{Who: 1}}, {Kind: api.CmdPROut, Action: api.Action{Kind: -1}}, {Kind: api.CmdPROut, Action: api.Action{Kind: 256}}, {Kind: api.CmdPROut, Action: api.Action{Type: -1}}, {Kind: api.CmdPROut, Action: api.Action{Type: 256}},
	}
}

// P12.1, P12.5: what may be is packed, and read as it was.
func TestMay(t *testing.T) {
	for i, c := range good() {
		b, e := command.Bytes(c)
		if !command.May(c, 64) || e != api.OK {
			t.Error(i, e)
		}
		if x, e := command.Of(b); x != c || e != api.OK || !command.Same(x, c) {
			t.Error(i, x, e)
		}
		for n := range b {
			if x, e := command.Of(b[:n]); x != (api.Command{}) || e != api.ErrBytes {
				t.Error(i, n, e)
			}
		}
		if _, e := command.Of(append(bytes.Clone(b), 0)); e != api.ErrBytes {
			t.Error(i, e)
		}
		for _, blocks := range []int{-1, 0, 65, 1 << 62} {
			if command.May(c, blocks) {
				t.Error(i, blocks)
			}
			if x, e := command.Check(b, blocks); x != (api.Command{}) || e != api.ErrArg {
				t.Error(i, blocks, e)
			}
		}
	}
	for i, c := range bad() {
		if b, e := command.Bytes(c); command.May(c, 64) || len(b) != 0 || e != api.ErrArg {
			t.Error(i, e)
		}
	}
}

// P12.1: the bytes.
func TestBytes(t *testing.T) {
	head := []byte{0, 0, 0, 0, 0, 0, 1, 2, 3}
	for i, x := range []struct {
		c    api.Command
		want []byte
	}{
		{api.Command{Num: 258, Who: 3, Kind: 1, Block: 9}, []byte{1, 9}},
		{api.Command{Num: 258, Who: 3, Kind: 2, Block: 9, Data: api.Block{7}}, append([]byte{2, 9, 7}, make([]byte, 255)...)},
		{api.Command{Num: 258, Who: 3, Kind: 3}, []byte{3}},
		{api.Command{Num: 258, Who: 3, Kind: 4, Block: 63}, []byte{4, 63}},
		{api.Command{Num: 258, Who: 3, Kind: 5, Block: 1}, []byte{5, 1}},
		{api.Command{Num: 258, Who: 3, Kind: 6}, []byte{6}},
		{api.Command{Num: 258, Who: 3, Kind: 7, Action: api.Action{Kind: 4, Key: 5, New: 6, Type: 7}}, []byte{7, 4, 0, 0, 0, 0, 0, 0, 0, 5, 0, 0, 0, 0, 0, 0, 0, 6, 7}},
	} {
		if b, e := command.Bytes(x.c); e != api.OK || !bytes.Equal(b, append(bytes.Clone(head), x.want...)) {
			t.Error(i, b, e)
		}
	}
	for i, b := range [][]byte{nil, append(bytes.Clone(head), 0), append(bytes.Clone(head), 8), append(bytes.Clone(head), 1, 64), {0, 0, 0, 0, 0, 0, 0, 0, 16, 3}} {
		if _, e := command.Of(b); e != api.ErrBytes {
			t.Error(i, e)
		}
	}
}

// P12.1: Check.
func TestCheck(t *testing.T) {
	read, _ := command.Bytes(api.Command{Kind: api.CmdRead, Block: 8})
	flush, _ := command.Bytes(api.Command{Kind: api.CmdFlush})
	for _, x := range []struct {
		b      []byte
		blocks int
		e      api.Errno
	}{{read, 64, 0}, {read, 9, 0}, {read, 8, api.ErrRange}, {read, 1, api.ErrRange}, {flush, 1, 0}, {read[:10], 1, api.ErrBytes}, {read[:10], 0, api.ErrArg}} {
		c, e := command.Check(x.b, x.blocks)
		if e != x.e || e != api.OK && c != (api.Command{}) || e == api.OK && !command.May(c, x.blocks) {
			t.Error(x.blocks, c, e)
		}
	}
	if command.May(api.Command{Kind: api.CmdRead, Block: 8}, 8) || !command.May(api.Command{Kind: api.CmdRead, Block: 7}, 8) {
		t.Error("May")
	}
}

// P12.2: Writes, Data.
func TestWrites(t *testing.T) {
	x := api.Block{9}
	for k := -1; k < 9; k++ {
		c := api.Command{Kind: api.CmdKind(k), Data: x}
		if command.Writes(c) != (k == 2 || k == 4 || k == 5) {
			t.Error(k)
		}
		if (command.Data(c) == x) != (k == 2) || k != 2 && command.Data(c) != (api.Block{}) {
			t.Error(k)
		}
	}
}

// P12.2: Allowed, by reading, writing, or nothing.
func TestAllowed(t *testing.T) {
	held := api.Reserve{Keys: [16]uint64{5, 7}, Type: api.WriteExclusive}
	alone := api.Reserve{Keys: [16]uint64{5, 7}, Type: api.ExclusiveAccess}
	broken := api.Reserve{Type: api.ExclusiveAccess}
	for k := -1; k < 9; k++ {
		writes := k >= 2 && k <= 5
		for who := -1; who < 17; who++ {
			c := api.Command{Kind: api.CmdKind(k), Who: who}
			is := who >= 0 && who < 16
			if command.Allowed(c, api.Reserve{}) != (is || k != 1 && !writes) || command.Allowed(c, broken) {
				t.Error(k, who)
			}
			if command.Allowed(c, held) != (who == 0 || k == 1 && is || k != 1 && !writes) {
				t.Error(k, who)
			}
			if command.Allowed(c, alone) != (who == 0 || k != 1 && !writes) {
				t.Error(k, who)
			}
		}
	}
}

func goodAnswers() []api.Answer {
	t := api.Reserve{Gen: 3, Keys: [16]uint64{5}, Type: api.WriteAll}
	return []api.Answer{
		{Num: 1<<64 - 1, Kind: api.CmdRead, Data: api.Block{4, 255: 5}}, {Kind: api.CmdRead}, {Kind: api.CmdRead, Code: api.ErrBusy}, {Num: 2, Kind: api.CmdWrite, Code: 1}, {Kind: api.CmdWrite}, {Kind: api.CmdFlush}, {Kind: api.CmdTrim}, {Kind: api.CmdZeroes},
		{Kind: api.CmdPRIn, Reserve: t}, {Kind: api.CmdPRIn}, {Kind: api.CmdPRIn, Code: api.ErrConflict},
		{Kind: api.CmdPROut}, {Kind: api.CmdPROut, Out: []int{0, 15}}, {Kind: api.CmdPROut, Out: []int{0, 1, 2, 3, 4, 5, 6, 7, 8, 9, 10, 11, 12, 13, 14, 15}}, {Kind: api.CmdPROut, Code: api.ErrIO},
	}
}

// P12.3, P12.5: answers that may be.
func TestAnswers(t *testing.T) {
	for i, a := range goodAnswers() {
		b, e := command.AnswerBytes(a)
		if !command.MayAnswer(a) || e != api.OK {
			t.Error(i, e)
		}
		if x, e := command.AnswerOf(b); !command.SameAnswer(x, a) || e != api.OK {
			t.Error(i, x, e)
		}
		for n := range b {
			if x, e := command.AnswerOf(b[:n]); e != api.ErrBytes || !command.SameAnswer(x, api.Answer{}) {
				t.Error(i, n, e)
			}
		}
		if _, e := command.AnswerOf(append(bytes.Clone(b), 0)); e != api.ErrBytes {
			t.Error(i, e)
		}
	}
	x := api.Block{1}
	table := api.Reserve{Gen: 1}
	for i, a := range []api.Answer{
		{}, {Kind: 8}, {Kind: -1}, {Kind: api.CmdRead, Code: -1}, {Kind: api.CmdRead, Code: 18}, {Kind: api.CmdRead, Code: 1, Data: x}, {Kind: api.CmdWrite, Data: x}, {Kind: api.CmdRead, Reserve: table}, {Kind: api.CmdRead, Out: []int{1}},
		{Kind: api.CmdPRIn, Code: 1, Reserve: table}, {Kind: api.CmdPRIn, Reserve: api.Reserve{Type: 1}}, {Kind: api.CmdPRIn, Out: []int{1}}, {Kind: api.CmdPRIn, Data: x},
		{Kind: api.CmdPROut, Code: 1, Out: []int{1}}, {Kind: api.CmdPROut, Out: []int{1, 1}}, {Kind: api.CmdPROut, Out: []int{2, 1}}, {Kind: api.CmdPROut, Out: []int{-1}}, {Kind: api.CmdPROut, Out: []int{16}}, {Kind: api.CmdPROut, Reserve: table}, {Kind: api.CmdFlush, Out: []int{1}},
	} {
		if b, e := command.AnswerBytes(a); command.MayAnswer(a) || len(b) != 0 || e != api.ErrArg {
			t.Error(i, e)
		}
	}
}

// P12.3: the bytes of answers.
func TestAnswerBytes(t *testing.T) {
	head := []byte{0, 0, 0, 0, 0, 0, 1, 2}
	table := api.Reserve{Gen: 3, Keys: [16]uint64{5}, Type: api.WriteAll}
	tb, _ := reserve.Bytes(table)
	for i, x := range []struct {
		a    api.Answer
		want []byte
	}{
		{api.Answer{Num: 258, Kind: 1, Data: api.Block{7}}, append([]byte{0, 1, 7}, make([]byte, 255)...)},
		{api.Answer{Num: 258, Kind: 1, Code: 11}, []byte{11, 1}},
		{api.Answer{Num: 258, Kind: 2}, []byte{0, 2}},
		{api.Answer{Num: 258, Kind: 6, Reserve: table}, append([]byte{0, 6}, tb...)},
		{api.Answer{Num: 258, Kind: 7, Out: []int{3, 9}}, []byte{0, 7, 2, 3, 9}},
		{api.Answer{Num: 258, Kind: 7}, []byte{0, 7, 0}},
		{api.Answer{Num: 258, Kind: 7, Code: 2}, []byte{2, 7}},
	} {
		if b, e := command.AnswerBytes(x.a); e != api.OK || !bytes.Equal(b, append(bytes.Clone(head), x.want...)) {
			t.Error(i, b, e)
		}
	}
	for i, b := range [][]byte{append(bytes.Clone(head), 18, 1), append(bytes.Clone(head), 0, 8), append(bytes.Clone(head), 0, 7, 2, 9, 3), append(bytes.Clone(head), 0, 7, 1, 16), append(append(bytes.Clone(head), 0, 6), make([]byte, 137)...), append(append(bytes.Clone(head), 0, 6, 0, 0, 0, 0, 0, 0, 0, 0, 1), make([]byte, 129)...)} {
		if a, e := command.AnswerOf(b); e != api.ErrBytes || !command.SameAnswer(a, api.Answer{}) {
			t.Error(i, e)
		}
	}
}

// P12.3: Same and SameAnswer look at all fields.
func TestSame(t *testing.T) {
	for i, f := range []func(c *api.Command){func(c *api.Command) { c.Num = 1 }, func(c *api.Command) { c.Who = 1 }, func(c *api.Command) { c.Kind = 1 }, func(c *api.Command) { c.Block = 1 }, func(c *api.Command) { c.Data[255] = 1 }, func(c *api.Command) { c.Action.New = 1 }, func(c *api.Command) { c.Action.Who = 1 }} {
		var c api.Command
		if f(&c); command.Same(c, api.Command{}) || !command.Same(c, c) {
			t.Error(i)
		}
	}
	for i, f := range []func(a *api.Answer){func(a *api.Answer) { a.Num = 1 }, func(a *api.Answer) { a.Code = 1 }, func(a *api.Answer) { a.Kind = 1 }, func(a *api.Answer) { a.Data[255] = 1 }, func(a *api.Answer) { a.Reserve.Keys[15] = 1 }, func(a *api.Answer) { a.Out = []int{0} }} {
		var a api.Answer
		if f(&a); command.SameAnswer(a, api.Answer{}) || !command.SameAnswer(a, a) {
			t.Error(i)
		}
	}
	if !command.SameAnswer(api.Answer{Out: []int{}}, api.Answer{}) {
		t.Error("nil and empty are one")
	}
}

// P12.4: an answer's part.
func TestPart(t *testing.T) {
	data, table := api.Block{3}, api.Reserve{Gen: 4}
	if x, ok := command.Part(api.Answer{Kind: api.CmdRead, Data: data}).(api.Block); !ok || x != data {
		t.Error("read")
	}
	if x, ok := command.Part(api.Answer{Kind: api.CmdPRIn, Reserve: table}).(api.Reserve); !ok || x != table {
		t.Error("table")
	}
	out := []int{1, 2}
	x, ok := command.Part(api.Answer{Kind: api.CmdPROut, Out: out}).([]int)
	if !ok || !slices.Equal(x, out) {
		t.Error("out", x)
	}
	if x[0] = 9; out[0] != 1 {
		t.Error("what is answered is the caller's")
	}
	if x, ok := command.Part(api.Answer{Kind: api.CmdPROut}).([]int); !ok || len(x) != 0 {
		t.Error("nobody was thrown out")
	}
	for k := -1; k < 9; k++ {
		a := api.Answer{Kind: api.CmdKind(k), Code: api.ErrConflict, Data: data, Reserve: table, Out: out}
		if x, ok := command.Part(a).(api.Errno); !ok || x != api.ErrConflict {
			t.Error(k)
		}
		if a.Code = 0; (command.Part(a) == nil) != (k != 1 && k != 6 && k != 7) {
			t.Error(k)
		}
	}
}
