package script_test

import (
	"math/rand"
	"strings"
	"testing"

	"gemel/api"
	"gemel/script"
)

func of(b ...byte) api.Block {
	var out api.Block
	copy(out[:], b)
	return out
}

var acts = []struct {
	a    api.Act
	text string
}{
	{api.Act{Kind: api.ActCommand, Cmd: api.Command{Who: 3, Kind: api.CmdWrite, Block: 5, Data: of(7)}}, "command 0 3 write 5 07"},
	{api.Act{Kind: api.ActCommand, Node: 1, Cmd: api.Command{Who: 15, Kind: api.CmdWrite, Block: 63}}, "command 1 15 write 63 -"},
	{api.Act{Kind: api.ActCommand, Cmd: api.Command{Kind: api.CmdWrite, Data: of(0x70, 0, 0xab)}}, "command 0 0 write 0 7000ab"},
	{api.Act{Kind: api.ActCommand, Cmd: api.Command{Kind: api.CmdWrite, Data: of(0x70)}}, "command 0 0 write 0 70"},
	{api.Act{Kind: api.ActCommand, Cmd: api.Command{Kind: api.CmdRead, Block: 9}}, "command 0 0 read 9"},
	{api.Act{Kind: api.ActCommand, Cmd: api.Command{Kind: api.CmdFlush}}, "command 0 0 flush"},
	{api.Act{Kind: api.ActCommand, Cmd: api.Command{Kind: api.CmdTrim, Block: 2}}, "command 0 0 trim 2"},
	{api.Act{Kind: api.ActCommand, Cmd: api.Command{Kind: api.CmdZeroes, Block: 2}}, "command 0 0 zeroes 2"},
	{api.Act{Kind: api.ActCommand, Cmd: api.Command{Kind: api.CmdPRIn}}, "command 0 0 table"},
	{api.Act{Kind: api.ActCommand, Cmd: api.Command{Kind: api.CmdPROut, Action: api.Action{Kind: 255, Key: 1<<64 - 1, New: 5, Type: 6}}}, "command 0 0 reserve 255 18446744073709551615 5 6"},
	{api.Act{Kind: api.ActCarry, N: 1000000}, "carry 1000000"},
	{api.Act{Kind: api.ActTick, Node: 1}, "tick 1"},
	{api.Act{Kind: api.ActAsk, Ask: api.AskPromote}, "ask 0 promote"},
	{api.Act{Kind: api.ActAsk, Node: 1, Ask: api.AskVerify}, "ask 1 verify"},
	{api.Act{Kind: api.ActOff}, "off 0 -"},
	{api.Act{Kind: api.ActOff, Node: 1, Picks: []int{0, 2}}, "off 1 0,2"},
	{api.Act{Kind: api.ActOn, Node: 1}, "on 1"},
	{api.Act{Kind: api.ActFuse, Node: 1, N: 10}, "fuse 1 10"},
	{api.Act{Kind: api.ActFail}, "fail 0"},
	{api.Act{Kind: api.ActBlank}, "blank 0"},
	{api.Act{Kind: api.ActCarryAll}, "all"},
}

// P25.1, P25.5: acts, and their texts.
func TestActs(t *testing.T) {
	for i, x := range acts {
		if s, e := script.ActText(x.a); s != x.text || e != api.OK || !script.MayAct(x.a) {
			t.Error(i, s, e)
		}
		if a, e := script.ActOf(x.text); !script.SameAct(a, x.a) || e != api.OK {
			t.Error(i, a, e)
		}
	}
}

// P25.1: acts that may not be told.
func TestMayAct(t *testing.T) {
	tick, off, carry, read := api.Act{Kind: api.ActTick}, api.Act{Kind: api.ActOff}, api.Act{Kind: api.ActCarry}, api.Act{Kind: api.ActCommand, Cmd: api.Command{Kind: api.CmdRead}}
	with := func(a api.Act, f func(a *api.Act)) api.Act { f(&a); return a }
	for i, a := range []api.Act{
		{}, {Kind: 11}, {Kind: -1}, {Kind: 1 << 40}, with(tick, func(a *api.Act) { a.Node = 2 }), with(tick, func(a *api.Act) { a.Node = -1 }), with(tick, func(a *api.Act) { a.N = 1 }), with(tick, func(a *api.Act) { a.Ask = 1 }), with(tick, func(a *api.Act) { a.Picks = []int{0} }), with(tick, func(a *api.Act) { a.Cmd.Who = 1 }),
		with(carry, func(a *api.Act) { a.N = -1 }), with(carry, func(a *api.Act) { a.N = 1000001 }), with(carry, func(a *api.Act) { a.Node = 1 }), {Kind: api.ActFuse, N: -1}, {Kind: api.ActFuse, N: 1000001}, {Kind: api.ActAsk}, {Kind: api.ActAsk, Ask: 10}, {Kind: api.ActCarryAll, Node: 1},
		with(off, func(a *api.Act) { a.Picks = make([]int, 101) }), with(off, func(a *api.Act) { a.Picks = []int{-1} }), with(off, func(a *api.Act) { a.Picks = []int{0, 1000001} }),
		with(read, func(a *api.Act) { a.Cmd.Num = 1 }), with(read, func(a *api.Act) { a.Cmd.Block = 64 }), with(read, func(a *api.Act) { a.Cmd.Data = of(1) }), with(read, func(a *api.Act) { a.Cmd.Kind = 8 }), with(read, func(a *api.Act) { a.Picks = []int{1} }), with(read, func(a *api.Act) { a.Node = 2 }),
	} {
		if s, e := script.ActText(a); script.MayAct(a) || s != "" || e != api.ErrArg {
			t.Error(i, s, e)
		}
	}
	if !script.MayAct(with(off, func(a *api.Act) { a.Picks = make([]int, 100) })) || !script.MayAct(with(off, func(a *api.Act) { a.Picks = []int{} })) {
		t.Error("picks")
	}
}

// P25.1: texts that are no act's.
func TestActOf(t *testing.T) {
	for _, x := range acts {
		for _, s := range []string{x.text + " ", " " + x.text, x.text + " 0", strings.Replace(x.text, " ", "  ", 1) + " ", x.text + "\n", strings.ToUpper(x.text)} {
			if a, e := script.ActOf(s); e != api.ErrBytes || !script.SameAct(a, api.Act{}) {
				t.Error(s, e)
			}
		}
		if i := strings.LastIndex(x.text, " "); i > 0 {
			if _, e := script.ActOf(x.text[:i]); e != api.ErrBytes {
				t.Error(x.text[:i], e)
			}
		}
	}
	for _, s := range []string{"", " ", "x", "tick", "tick 2", "tick 01", "tick -1", "tick 0 0", "carry", "carry 1000001", "carry x", "ask 0", "ask 0 Promote", "ask 0 x", "ask 2 promote", "off 0", "off 0 ", "off 0 ,", "off 0 1,", "off 0 ,1", "off 0 1,,2", "off 0 01", "off 0 -,1", "off 0 1000001", "fuse 0", "fuse 0 -1", "command 0", "command 0 16 flush", "command 0 0", "command 0 0 x", "command 0 0 write 5", "command 0 0 write 5 0", "command 0 0 write 5 00", "command 0 0 write 5 0700", "command 0 0 write 5 0G", "command 0 0 write 5 AB", "command 0 0 write 64 07", "command 0 0 read 256", "command 0 0 reserve 1 2 3", "command 0 0 reserve 256 0 0 0", "command 0 0 reserve 0 18446744073709551616 0 0", "command 0 0 reserve 0 0 0 256", "command 0 0 write 0 " + strings.Repeat("01", 257), "stage", "all 0", "off 0 " + strings.TrimSuffix(strings.Repeat("1,", 101), ",")} {
		if a, e := script.ActOf(s); e != api.ErrBytes || !script.SameAct(a, api.Act{}) {
			t.Error(s, e)
		}
	}
	if _, e := script.ActOf("command 0 0 write 0 " + strings.Repeat("01", 256)); e != api.OK {
		t.Error(e)
	}
}

// P25.1: SameAct looks at all parts.
func TestSameAct(t *testing.T) {
	for i, f := range []func(a *api.Act){func(a *api.Act) { a.Kind = 1 }, func(a *api.Act) { a.Node = 1 }, func(a *api.Act) { a.N = 1 }, func(a *api.Act) { a.Cmd.Num = 1 }, func(a *api.Act) { a.Ask = 1 }, func(a *api.Act) { a.Picks = []int{0} }} {
		var a api.Act
		if f(&a); script.SameAct(a, api.Act{}) || !script.SameAct(a, a) {
			t.Error(i)
		}
	}
	if !script.SameAct(api.Act{Picks: []int{}}, api.Act{}) {
		t.Error("nil and empty are one")
	}
}

// P25.2: commands, blocks, and what may be asked.
func TestTexts(t *testing.T) {
	if s, e := script.CommandText(api.Command{Num: 99, Who: 2, Kind: api.CmdRead, Block: 9}); s != "2 read 9" || e != api.OK {
		t.Error("its Num counts for nothing", s, e)
	}
	for _, c := range []api.Command{{}, {Kind: 8}, {Kind: api.CmdRead, Block: 64}, {Kind: api.CmdFlush, Block: 1}, {Kind: api.CmdFlush, Who: 16}} {
		if s, e := script.CommandText(c); s != "" || e != api.ErrArg {
			t.Error(s, e)
		}
	}
	full := api.Block{255: 0x10}
	for _, x := range []struct {
		b    api.Block
		text string
	}{{of(), "-"}, {of(0, 1), "0001"}, {of(0xf0), "f0"}, {full, strings.Repeat("00", 255) + "10"}} {
		if s := script.BlockText(x.b); s != x.text {
			t.Error(s)
		}
	}
	want := "1 promote 2 force 3 demote 4 connect 5 disconnect 6 attach 7 detach 8 outdate 9 verify"
	names := script.Names()
	for range 2 {
		var l []string
		for a, s := range names {
			l = append(l, string(rune('0'+int(a)))+" "+s)
		}
		if got := strings.Join(l, " "); got != want {
			t.Error(got)
		}
	}
	for a, s := range names {
		if a != api.AskPromote || s != "promote" {
			t.Error(a, s)
		}
		break
	}
}

func stage(draws ...uint64) api.Stage {
	return api.Stage{Setup: api.Setup{Blocks: 8, Hot: 2, Cap: 1000, Window: 16, Digests: true, Protocol: api.ProtocolC, Fencing: api.Stonith, Policy: api.Policy{Zero: api.DiscardOne, One: api.Consensus, Two: api.Disconnect}}, Draws: draws}
}

const stageLine = "stage 8 2 1000 16 digests c stonith one consensus disconnect "

// P25.3, P25.5: stages, and their texts.
func TestStage(t *testing.T) {
	other := api.Stage{Setup: api.Setup{Blocks: 64, Hot: 16, Cap: 1, Window: 1, Protocol: api.ProtocolA, Fencing: api.DontCare, Policy: api.Policy{Zero: api.DiscardLeast, One: api.DiscardSecondary, Two: api.Disconnect}}, Draws: []uint64{0, 1<<64 - 1}}
	middle := other
	middle.Setup.Protocol, middle.Setup.Fencing, middle.Setup.Policy.Zero, middle.Setup.Policy.One, middle.Draws = api.ProtocolB, api.ResourceOnly, api.DiscardYounger, api.Disconnect, []uint64{7}
	for i, x := range []struct {
		s    api.Stage
		text string
	}{{stage(), stageLine + "-"}, {other, "stage 64 16 1 1 plain a free least secondary disconnect 0,18446744073709551615"}, {middle, "stage 64 16 1 1 plain b resource younger disconnect disconnect 7"}} {
		if s, e := script.StageText(x.s); s != x.text || e != api.OK || !script.MayStage(x.s) {
			t.Error(i, s, e)
		}
		if s, e := script.StageOf(x.text); e != api.OK || !script.Same(api.Script{Stage: s}, api.Script{Stage: x.s}) {
			t.Error(i, s, e)
		}
	}
	bad := stage()
	bad.Setup.Cap = 1001
	for i, s := range []api.Stage{{}, bad, stage(make([]uint64, 1001)...)} {
		if x, e := script.StageText(s); x != "" || e != api.ErrArg || script.MayStage(s) {
			t.Error(i, e)
		}
	}
	if !script.MayStage(stage(make([]uint64, 1000)...)) {
		t.Error("1000 draws")
	}
	for _, s := range []string{"", "stage", "stage 8", stageLine, stageLine + "x", stageLine + "-,1", stageLine + "1,", stageLine + "18446744073709551616", stageLine + "- -", " " + stageLine + "-", "Stage" + stageLine[5:] + "-", "stage 08 2 1000 16 digests c stonith one consensus disconnect -", "stage 65 2 1000 16 digests c stonith one consensus disconnect -", "stage 8 2 1001 16 digests c stonith one consensus disconnect -", "stage 8 2 1 1 digest c stonith one consensus disconnect -", "stage 8 2 1 1 digests d stonith one consensus disconnect -", "stage 8 2 1 1 digests c stonit one consensus disconnect -", "stage 8 2 1 1 digests c stonith secondary consensus disconnect -", "stage 8 2 1 1 digests c stonith one consensus one -", stageLine + strings.TrimSuffix(strings.Repeat("1,", 1001), ",")} {
		if x, e := script.StageOf(s); e != api.ErrBytes || !script.Same(api.Script{Stage: x}, api.Script{}) {
			t.Error(s, e)
		}
	}
}

// P25.4: whole scripts.
func TestText(t *testing.T) {
	s := api.Script{Stage: stage(5)}
	want := stageLine + "5\n"
	for _, x := range acts {
		s.Acts = append(s.Acts, x.a)
		want += x.text + "\n"
	}
	if got, e := script.Text(s); got != want || e != api.OK {
		t.Error(got, e)
	}
	if got, line, e := script.Parse(want); !script.Same(got, s) || line != 0 || e != api.OK {
		t.Error(line, e)
	}
	tick := api.Act{Kind: api.ActTick}
	many := api.Script{Stage: stage()}
	for range api.MaxActs {
		many.Acts = append(many.Acts, tick)
	}
	text, e := script.Text(many)
	if got, line, f := script.Parse(text); e != api.OK || f != api.OK || line != 0 || len(got.Acts) != 5000 {
		t.Error(e, f, line)
	}
	if got, line, f := script.Parse(text + "tick 0\n"); f != api.ErrBytes || line != 5001 || len(got.Acts) != 0 {
		t.Error(f, line)
	}
	many.Acts = append(many.Acts, tick)
	if got, e := script.Text(many); got != "" || e != api.ErrLong {
		t.Error(e)
	}
	many.Acts[2500].Node = 7
	if got, e := script.Text(many); got != "" || e != api.ErrArg {
		t.Error("ErrArg is ahead of too many", e)
	}
	many.Acts, many.Stage = nil, api.Stage{}
	if _, e := script.Text(many); e != api.ErrArg {
		t.Error(e)
	}
}

// P25.4: the first line that is wrong.
func TestParse(t *testing.T) {
	head := stageLine + "-\n"
	for i, x := range []struct {
		text string
		line int
	}{{"", 0}, {"\n", 0}, {stageLine + "-", 0}, {"tick 0\n", 0}, {head + "tick 0", 1}, {head + "tick 0\ntick 2\ntick 0\n", 2}, {head + "tick 0\n\n", 2}, {head + "\n", 1}, {head + head, 1}, {head + "tick 9\ntick 0", 1}, {head + " ", 1}, {head + "tick 0\r\n", 1}} {
		if s, line, e := script.Parse(x.text); line != x.line || e != api.ErrBytes || !script.Same(s, api.Script{}) {
			t.Error(i, line, e)
		}
	}
	if s, line, e := script.Parse(head); line != 0 || e != api.OK || !script.Same(s, api.Script{Stage: stage()}) {
		t.Error(line, e)
	}
	if s, line, e := script.Parse(strings.Repeat("x", api.MaxScript+1)); line != 0 || e != api.ErrLong || !script.Same(s, api.Script{}) {
		t.Error(line, e)
	}
	if _, line, e := script.Parse(strings.Repeat("x", api.MaxScript)); line != 0 || e != api.ErrBytes {
		t.Error(line, e)
	}
}

// P25.4: Same looks at all.
func TestSame(t *testing.T) {
	s := api.Script{Stage: stage(1), Acts: []api.Act{{Kind: 3}}}
	for i, x := range []api.Script{{Stage: stage(2), Acts: s.Acts}, {Stage: stage(), Acts: s.Acts}, {Stage: stage(1)}, {Stage: stage(1), Acts: []api.Act{{Kind: 5}}}, {Stage: api.Stage{Draws: []uint64{1}}, Acts: s.Acts}} {
		if script.Same(s, x) || !script.Same(x, x) {
			t.Error(i)
		}
	}
}

// P25.5: what Parse took has that text, whatever is put into one.
func TestMangled(t *testing.T) {
	s := api.Script{Stage: stage(5, 6)}
	for _, x := range acts {
		s.Acts = append(s.Acts, x.a)
	}
	text, _ := script.Text(s)
	r := rand.New(rand.NewSource(9))
	took := 0
	for range 20000 {
		b := []byte(text)
		for range 1 + r.Intn(2) {
			b[r.Intn(len(b))] = "0123456789abf ,-\nxe"[r.Intn(19)]
		}
		got, line, e := script.Parse(string(b))
		if e != api.OK {
			if line > strings.Count(string(b), "\n") {
				t.Fatal(line)
			}
			continue
		}
		took++
		if again, e := script.Text(got); again != string(b) || e != api.OK {
			t.Fatal(string(b))
		}
	}
	if took < 100 {
		t.Error(took)
	}
}
