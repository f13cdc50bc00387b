package uuid_test

import (
	"math/rand"
	"slices"
	"testing"

	"gemel/api"
	"gemel/uuid"
)

func line(l ...uint64) api.Line {
	l = append(l, 0, 0, 0)
	return api.Line{Current: l[0], Base: l[1], History: [2]uint64{l[2], l[3]}}
}

// P7.1: elder ones, and what is blank.
func TestElder(t *testing.T) {
	for _, x := range []struct {
		l    api.Line
		want []uint64
	}{{line(5), nil}, {line(5, 3), []uint64{3}}, {line(5, 0, 2), []uint64{2}}, {line(5, 0, 0, 1), []uint64{1}}, {line(5, 3, 2, 1), []uint64{3, 2, 1}}, {line(0, 3, 0, 1), []uint64{3, 1}}, {line(5, 3, 3), []uint64{3, 3}}} {
		if got := uuid.Elder(x.l); !slices.Equal(got, x.want) {
			t.Error(x, got)
		}
	}
	if !uuid.Blank(line(0, 3, 2, 1)) || uuid.Blank(line(1)) {
		t.Error("Blank")
	}
}

// P7.1: verdicts, the common one, and whether the bitmaps do.
func TestCompare(t *testing.T) {
	for i, x := range []struct {
		mine, other api.Line
		verdict     api.Verdict
		common      uint64
		partly      bool
	}{
		{line(0), line(0), api.VerdictBlank, 0, false},
		{line(0, 3), line(0, 3), api.VerdictBlank, 0, false},
		{line(0, 3), line(3), api.VerdictMineBlank, 0, false},
		{line(3), line(0), api.VerdictBlankOther, 0, false},
		{line(5), line(5), api.VerdictEqual, 5, true},
		{line(5, 3), line(5, 4), api.VerdictEqual, 5, true},
		{line(3), line(5, 3), api.VerdictAncestor, 3, true},
		{line(3), line(5, 4, 3), api.VerdictAncestor, 3, false},
		{line(3), line(5, 0, 3), api.VerdictAncestor, 3, false},
		{line(3), line(5, 0, 4, 3), api.VerdictAncestor, 3, false},
		{line(5, 3), line(3), api.VerdictDescendant, 3, true},
		{line(5, 4, 3), line(3), api.VerdictDescendant, 3, false},
		{line(5, 0, 0, 3), line(3, 9), api.VerdictDescendant, 3, false},
		{line(5, 3), line(3, 5), api.VerdictAncestor, 5, true}, // both are elder ones: the first verdict
		{line(5, 3), line(7, 3), api.VerdictDiverged, 3, true},
		{line(5, 3), line(7, 4, 3), api.VerdictDiverged, 3, false},
		{line(5, 4, 3), line(7, 3), api.VerdictDiverged, 3, false},
		{line(5, 4, 3, 2), line(7, 6, 2, 3), api.VerdictDiverged, 3, false},
		{line(5, 0, 3), line(7, 0, 3), api.VerdictDiverged, 3, false},
		{line(5, 3), line(7, 4), api.VerdictUnrelated, 0, false},
		{line(5), line(7), api.VerdictUnrelated, 0, false},
		{line(5, 0, 2, 1), line(7), api.VerdictUnrelated, 0, false},
	} {
		if v := uuid.Compare(x.mine, x.other); v != x.verdict {
			t.Error(i, v)
		}
		if c := uuid.Common(x.mine, x.other); c != x.common {
			t.Error(i, c)
		}
		if p := uuid.Partly(x.mine, x.other); p != x.partly {
			t.Error(i, p)
		}
	}
}

// P7.1: verdicts, as the other one has them.
func TestTurn(t *testing.T) {
	for v, want := range map[api.Verdict]api.Verdict{1: 1, 2: 3, 3: 2, 4: 4, 5: 6, 6: 5, 7: 7, 8: 8, 0: 0, 9: 0, -1: 0, 1 << 62: 0, -1 << 63: 0} {
		if got := uuid.Turn(v); got != want {
			t.Error(v, got)
		}
	}
}

// P7.2: going on alone, and a resync's end.
func TestAloneEnded(t *testing.T) {
	for i, x := range []struct {
		l, alone api.Line
		used     bool
		ended    api.Line
	}{
		{line(5), line(9, 5), true, line(5)},
		{line(5, 0, 2, 1), line(9, 5, 2, 1), true, line(5, 0, 2, 1)},
		{line(5, 3), line(5, 3), false, line(5, 0, 3)},
		{line(5, 3, 2, 1), line(5, 3, 2, 1), false, line(5, 0, 3, 2)},
		{line(0), line(9), true, line(0)},
	} {
		if l, used := uuid.Alone(x.l, 9); l != x.alone || used != x.used {
			t.Error(i, l, used)
		}
		if l := uuid.Ended(x.l); l != x.ended {
			t.Error(i, l)
		}
	}
	if l, used := uuid.Alone(line(5), 0); l != line(0, 5) || !used {
		t.Error("a draw of 0 is taken", l, used)
	}
}

func double(l api.Line) bool {
	all := append(uuid.Elder(l), l.Current)
	slices.Sort(all)
	return len(slices.Compact(all)) < len(uuid.Elder(l))+1
}

// P7.3: what the other one's comparison says.
func TestTurned(t *testing.T) {
	r := rand.New(rand.NewSource(7))
	some := func() api.Line {
		return line(uint64(r.Intn(6)), uint64(r.Intn(6)), uint64(r.Intn(6)), uint64(r.Intn(6)))
	}
	tried := 0
	for range 20000 {
		a, b := some(), some()
		if double(a) || double(b) || slices.Contains(uuid.Elder(a), b.Current) && slices.Contains(uuid.Elder(b), a.Current) {
			continue
		}
		tried++
		if uuid.Compare(a, b) != uuid.Turn(uuid.Compare(b, a)) {
			t.Fatal(a, b)
		}
	}
	if tried < 1000 {
		t.Error(tried)
	}
}

// P7.3: of lines that came of one, the verdict is what the tree of the draws says, as far as elder ones go.
func TestTree(t *testing.T) {
	r := rand.New(rand.NewSource(8))
	for range 500 {
		parent := map[uint64]uint64{}
		lines := []api.Line{line(1)}
		draw := uint64(1)
		for range 12 {
			l := lines[r.Intn(len(lines))]
			if r.Intn(2) == 0 {
				draw++
				if m, used := uuid.Alone(l, draw); used {
					parent[draw] = l.Current
					l = m
				}
			} else {
				l = uuid.Ended(l)
			}
			lines = append(lines, l)
		}
		up := func(l api.Line) []uint64 {
			var out []uint64
			for g := parent[l.Current]; g != 0; g = parent[g] {
				out = append(out, g)
			}
			return out
		}
		for _, a := range lines {
			if e := uuid.Elder(a); !slices.Equal(e, up(a)[:len(e)]) {
				t.Fatal(a, up(a))
			}
			for _, b := range lines {
				seesA, seesB := up(a)[:len(uuid.Elder(a))], up(b)[:len(uuid.Elder(b))]
				want := api.VerdictUnrelated
				switch {
				case a.Current == b.Current:
					want = api.VerdictEqual
				case slices.Contains(seesB, a.Current):
					want = api.VerdictAncestor
				case slices.Contains(seesA, b.Current):
					want = api.VerdictDescendant
				case slices.ContainsFunc(seesA, func(g uint64) bool { return slices.Contains(seesB, g) }):
					want = api.VerdictDiverged
				}
				if v := uuid.Compare(a, b); v != want {
					t.Fatal(a, b, v, want)
				}
			}
		}
	}
}
