package console_test

import (
	"slices"
	"strconv"
	"strings"
	"testing"

	"gemel/api"
	"gemel/console"
	"gemel/script"
	"gemel/world"
)

const stage = "stage 4 2 2 2 digests c stonith disconnect disconnect disconnect 5,6,7,8,9,10,11,12"

// says holds what is answered to lines against what should be.
func says(t *testing.T, c *console.Console, lines ...[]string) {
	t.Helper()
	for _, l := range lines {
		if got := c.Say(l[0]); !slices.Equal(got, l[1:]) {
			t.Errorf("%q: %q, not %q", l[0], got, l[1:])
		}
	}
}

func begun(t *testing.T, lines ...string) *console.Console {
	t.Helper()
	c := console.New()
	for _, l := range append([]string{stage}, lines...) {
		if got := c.Say(l); len(got) != 1 || got[0] != "ok" {
			t.Error(l, got)
		}
	}
	return c
}

var reign = []string{"tick 0", "tick 1", "all", "ask 0 promote", "all"}

// P26.1: the example, and the end.
func TestExample(t *testing.T) {
	c := console.New()
	if c.Begun() || c.World() != nil {
		t.Error("it has not begun")
	}
	says(t, c, []string{"view", "error 9"}, []string{stage, "ok"}, []string{"tick 0", "ok"}, []string{"tick 1", "ok"}, []string{"all", "ok"}, []string{"judge", "right right right right right right"})
	w := c.World()
	if !c.Begun() || w.Acts() != 3 {
		t.Error("World")
	}
	says(t, c, []string{stage, "ok"})
	if c.World().Acts() != 0 || w.Acts() != 3 {
		t.Error("a new world in the place of one that was")
	}
	says(t, c, []string{"end", "ok"}, []string{"end", "ok"}, []string{"view", "error 9"})
	if c.Begun() || c.World() != nil {
		t.Error("there is none")
	}
}

// P26.1: lines that are none's, and lines that ask for a world, in order.
func TestRefused(t *testing.T) {
	bad := []string{"", " ", "x", "view ", " view", "view 0", "VIEW", "blocks", "blocks 2", "blocks 00", "blocks 0 ", "blocks 0 0", "table", "line 9", "line", "net 1", "history 1", "tree 1", "judge 1", "end 1", "tick", "tick 2", "all 1", "stage", stage + " ", "command 0 0 x", "tick 0\n", "view\n", "view\nview", "end\n", "judge\r"}
	good := []string{"view", "history", "net", "blocks 0", "blocks 1", "table 0", "line 1", "tree", "judge", "tick 0", "all", "carry 0", "on 0", "off 0 -", "fuse 0 1", "fail 1", "blank 0", "ask 0 promote", "command 0 0 flush"}
	c := console.New()
	for _, begun := range []bool{false, true} {
		if begun {
			c.Say(stage)
		}
		for _, l := range bad {
			says(t, c, []string{l, "error 4"})
		}
		says(t, c, []string{strings.Repeat("x", api.MaxScript+1), "error 3"}, []string{strings.Repeat("x", api.MaxScript), "error 4"})
		if !begun {
			for _, l := range good {
				says(t, c, []string{l, "error 9"})
			}
		}
	}
	if c.World().Acts() != 0 {
		t.Error("what is none changes nothing")
	}
	says(t, c, []string{"carry 0", "error 6"}, []string{"on 0", "error 9"}, []string{"blank 0", "error 9"}, []string{"off 1 -", "ok"}, []string{"tick 1", "error 9"})
	if c.World().Acts() != 5 {
		t.Error("an act that the world refuses counts in its clock")
	}
}

// P26.1: what is seen of both nodes.
func TestView(t *testing.T) {
	c := begun(t)
	says(t, c, []string{"view", "up 1 4 2", "up 1 4 2", "nobody"}, []string{"net", "0 0"}, []string{"history"})
	c = begun(t, reign...)
	says(t, c, []string{"view", "up 2 4 4", "up 1 4 4", "nobody"})
	c = begun(t, "ask 0 promote")
	says(t, c, []string{"view", "up 2 4 2", "off", "0"}, []string{"tree", "5 0", "6 5"}, []string{"line 0", "4 6 5 0 0 crashed 0"}, []string{"line 1", "none"}, []string{"blocks 1", "none"}, []string{"table 1", "none"})
	c = begun(t, "off 0 -", "ask 1 promote", "off 1 1,2")
	says(t, c, []string{"view", "off", "off", "1"})
	c = begun(t, "tick 0", "tick 0", "tick 1", "carry 0", "carry 0")
	says(t, c, []string{"net", "5 4"})
}

// P26.1: blocks, tables, lines.
func TestLooks(t *testing.T) {
	c := begun(t, append(slices.Clone(reign), "command 0 0 write 2 0701", "command 0 3 reserve 2 0 9 0", "all", "command 0 3 reserve 3 9 0 1", "all", "command 0 3 write 3 05")...)
	says(t, c, []string{"blocks 0", "-", "-", "0701", "05"}, []string{"blocks 1", "-", "-", "0701", "-"}, []string{"table 0", "1 1 3 0 0 0 9 0 0 0 0 0 0 0 0 0 0 0 0"}, []string{"table 1", "1 1 3 0 0 0 9 0 0 0 0 0 0 0 0 0 0 0 0"}, []string{"line 0", "4 5 0 0 0 crashed 0"}, []string{"line 1", "4 5 0 0 0 left 0"})
	c = begun(t, "fail 0")
	says(t, c, []string{"blocks 0", "-", "-", "-", "-"})
	if c.World().Node(0).Store().Broken() != api.OK {
		t.Error("a look changes nothing")
	}
	says(t, c, []string{"ask 0 outdate", "ok"}, []string{"blocks 0", "none"}, []string{"line 0", "none"}, []string{"table 0", "0 0 0 0 0 0 0 0 0 0 0 0 0 0 0 0 0 0 0"}, []string{"view", "up 1 1 2", "up 1 4 2", "nobody"})
}

// P26.1: the history, and answers as words.
func TestHistory(t *testing.T) {
	c := begun(t, append(slices.Clone(reign), "command 1 0 flush", "command 0 0 read 9", "command 0 1 reserve 2 0 7 0", "all", "command 0 1 reserve 6 7 7 0", "all", "command 0 2 reserve 2 0 8 0", "all", "command 0 1 reserve 6 7 8 0", "all", "command 0 0 table", "command 0 0 write 1 07", "all", "command 0 0 read 1", "command 0 0 read 0", "command 0 0 reserve 3 1 0 1", "command 0 0 trim 1", "off 0 -", "command 1 0 flush", "on 0")...)
	says(t, c, []string{"history",
		"1 1 0 flush 5 5 error 9", "2 0 0 read 9 6 6 error 5", "3 0 1 reserve 2 0 7 0 7 8 ok -", "4 0 1 reserve 6 7 7 0 9 10 ok -", "5 0 2 reserve 2 0 8 0 11 12 ok -", "6 0 1 reserve 6 7 8 0 13 14 ok 2",
		"7 0 0 table 15 15 ok 4 0 0 0 7 0 0 0 0 0 0 0 0 0 0 0 0 0 0", "8 0 0 write 1 07 16 17 ok", "9 0 0 read 1 18 18 ok 07", "10 0 0 read 0 19 19 ok -", "11 0 0 reserve 3 1 0 1 20 20 error 13", "12 0 0 trim 1 21 gone 22", "13 1 0 flush 23 23 error 9",
	})
	c = begun(t, append(slices.Clone(reign), "command 0 0 zeroes 3")...)
	says(t, c, []string{"history", "1 0 0 zeroes 3 5 waits"})
}

// P26.1: the tree, where draws may not be.
func TestTree(t *testing.T) {
	c := console.New()
	c.Say("stage 4 2 2 2 plain c free disconnect disconnect disconnect 5,6,6")
	says(t, c, []string{"tree", "5 0"}, []string{"ask 0 force", "ok"}, []string{"tree", "5 0", "6 5"}, []string{"ask 1 force", "ok"}, []string{"tree", "none"})
}

// P26.1: Run is Say of its lines.
func TestRun(t *testing.T) {
	for _, x := range []struct{ text, want string }{
		{"", ""}, {"\n", "error 4\n"}, {"view", "error 9\n"}, {"view\n", "error 9\n"}, {"view\n\nend", "error 9\nerror 4\nok\n"}, {stage + "\nview\nhistory\nnet", "ok\nup 1 4 2\nup 1 4 2\nnobody\n0 0\n"},
	} {
		if got, e := console.New().Run(x.text); got != x.want || e != api.OK {
			t.Errorf("%q: %q %v", x.text, got, e)
		}
	}
	c := console.New()
	if got, e := c.Run(strings.Repeat("x", api.MaxScript+1)); got != "" || e != api.ErrLong {
		t.Error(e)
	}
	if got, e := c.Run(strings.Repeat("x", api.MaxScript)); got != "error 4\n" || e != api.OK {
		t.Error(got, e)
	}
	lines := append([]string{stage}, reign...)
	lines = append(lines, "command 0 0 write 1 07", "x", "view", "blocks 1", "all", "history", "tree", "judge", "end", "view")
	want := ""
	d := console.New()
	for _, l := range lines {
		for _, x := range d.Say(l) {
			want += x + "\n"
		}
	}
	if got, e := c.Run(strings.Join(lines, "\n")); got != want || e != api.OK || c.Begun() {
		t.Error(got, e)
	}
}

// P26.1: nil and zero consoles.
func TestNil(t *testing.T) {
	for _, c := range []*console.Console{nil, {}} {
		s, e := c.Run("end")
		if len(c.Say(stage)) != 0 || len(c.Say("end")) != 0 || s != "" || e != api.ErrNil || c.Begun() || c.World() != nil {
			t.Error("nil")
		}
	}
}

// P26.2: a script's text is said by its lines: its world is the script's; looks change nothing.
func TestScript(t *testing.T) {
	text := stage + "\n" + strings.Join(reign, "\n") + "\ncommand 0 0 write 1 07\ncommand 0 0 read 1\nall\noff 1 0,1\ntick 0\nfuse 0 3\ncommand 0 0 write 2 08\n"
	s, _, e := script.Parse(text)
	if e != api.OK {
		t.Fatal(e)
	}
	w, _, _ := world.Run(s.Stage, s.Acts...)
	looks := "view\nhistory\nnet\nblocks 0\nblocks 1\ntable 0\nline 0\ntree\njudge\nx\n"
	a, b := console.New(), console.New()
	if _, e := a.Run(text); e != api.OK {
		t.Error(e)
	}
	b.Run(strings.ReplaceAll(text, "\n", "\n"+looks))
	for i, c := range []*console.Console{a, b} {
		v := c.World()
		if v.Acts() != w.Acts() || v.View() != w.View() || len(v.Net()) != len(w.Net()) || !v.Disk(0).Same(w.Disk(0)) || !v.Disk(1).Same(w.Disk(1)) || len(v.History()) != len(w.History()) {
			t.Error(i)
		}
		says(t, c, []string{"judge", "right right right right right right"})
	}
}

// P26.1: a line's elder ones, in order.
func TestLine(t *testing.T) {
	c := begun(t)
	for range 2 {
		for _, l := range []string{"ask 0 disconnect", "ask 0 promote", "ask 0 connect", "on 1", "tick 0", "tick 1", "all", "ask 0 demote", "all"} {
			c.Say(l)
		}
	}
	x := c.World().Node(0).Store().Super().Line
	if x.History[0] == 0 || x.History[1] == 0 || x.History[0] == x.History[1] {
		t.Fatal(x)
	}
	got := strings.Fields(c.Say("line 0")[0])
	for i, n := range []uint64{x.Current, x.Base, x.History[0], x.History[1]} {
		if got[1+i] != strconv.FormatUint(n, 10) {
			t.Error(i, got)
		}
	}
}
