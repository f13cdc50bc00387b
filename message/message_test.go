package message_test

import (
	"bytes"
	"strings"
	"testing"

	"gemel/api"
	"gemel/message"
)

var line = api.Line{Current: 9, Base: 8, History: [2]uint64{7, 6}}

func shake() api.Message {
	return api.Message{Kind: api.MsgShake, Node: 1, Blocks: 8, Role: api.Primary, State: api.UpToDate, Line: line, Crashed: true, Set: 0x83, Yes: true, Table: []byte("tt")}
}

func good() []api.Message {
	digest := bytes.Repeat([]byte{4}, 32)
	x := api.Block{5, 255: 6}
	return []api.Message{
		shake(),
		{Kind: api.MsgShake, Blocks: 1, Role: api.Secondary, State: api.Diskless},
		{Kind: api.MsgShake, Blocks: 64, Role: api.Secondary, State: api.Inconsistent, Set: 1<<64 - 1, Table: make([]byte, 3000), Line: api.Line{Base: 4}},
		{Kind: api.MsgWrite, Num: 1<<64 - 1, Block: 63, Data: x},
		{Kind: api.MsgGot, Num: 7}, {Kind: api.MsgWritten}, {Kind: api.MsgBarrier, Num: 258}, {Kind: api.MsgBarred, Num: 1},
		{Kind: api.MsgAsk, Block: 3}, {Kind: api.MsgAsk, Digest: digest},
		{Kind: api.MsgSync, Block: 3, Yes: true}, {Kind: api.MsgSync, Data: x}, {Kind: api.MsgSync},
		{Kind: api.MsgSynced},
		{Kind: api.MsgEnd, Line: line}, {Kind: api.MsgEnd},
		{Kind: api.MsgState, Role: api.Primary, State: api.Outdated},
		{Kind: api.MsgPromote}, {Kind: api.MsgPromoted}, {Kind: api.MsgPromoted, Yes: true},
		{Kind: api.MsgRead, Num: 1, Block: 63},
		{Kind: api.MsgData, Num: 1, Yes: true, Data: x}, {Kind: api.MsgData, Num: 1}, {Kind: api.MsgData, Yes: true},
		{Kind: api.MsgTable, Num: 2}, {Kind: api.MsgTable, Num: 2, Table: make([]byte, 3000)},
		{Kind: api.MsgTabled, Num: 2},
		{Kind: api.MsgVerify, Block: 63, Digest: digest},
		{Kind: api.MsgVerified, Block: 5, Yes: true}, {Kind: api.MsgVerified},
	}
}

// P10.1, P10.3: what may be is packed, and read as it was; unlike ones have unlike bytes.
func TestMay(t *testing.T) {
	seen := map[string]int{}
	for i, m := range good() {
		b, e := message.Bytes(m)
		if !message.May(m) || e != api.OK {
			t.Error(i, e)
		}
		x, e := message.Of(b)
		if !message.Same(x, m) || e != api.OK {
			t.Error(i, x, e)
		}
		if j, there := seen[string(b)]; there {
			t.Error(i, j)
		}
		seen[string(b)] = i
		for n := range b {
			if x, e := message.Of(b[:n]); e != api.ErrBytes || !message.Same(x, api.Message{}) {
				t.Error(i, n, e)
			}
		}
		if _, e := message.Of(append(bytes.Clone(b), 0)); e != api.ErrBytes {
			t.Error(i, e)
		}
	}
}

// fields change one thing each, by its letter, to what may be.
var fields = map[rune]func(m *api.Message){
	'n': func(m *api.Message) { m.Node = 1 }, 'b': func(m *api.Message) { m.Blocks = 64 }, 'r': func(m *api.Message) { m.Role = 2 }, 's': func(m *api.Message) { m.State = 3 },
	'l': func(m *api.Message) { m.Line.History[1] = 1 }, 'c': func(m *api.Message) { m.Crashed = true }, 't': func(m *api.Message) { m.Set = 1 }, 'u': func(m *api.Message) { m.Num = 1 },
	'k': func(m *api.Message) { m.Block = 1 }, 'y': func(m *api.Message) { m.Yes = true }, 'd': func(m *api.Message) { m.Data[9] = 1 }, 'g': func(m *api.Message) { m.Digest = make([]byte, 32) }, 'a': func(m *api.Message) { m.Table = []byte{0} },
}

// P10.1: what a kind does not name is nothing.
func TestNamesNothingMore(t *testing.T) {
	for i, m := range good() {
		for letter, f := range fields {
			x := m
			f(&x)
			if strings.ContainsRune(message.Names(m.Kind), letter) {
				continue
			}
			if b, e := message.Bytes(x); message.May(x) || len(b) != 0 || e != api.ErrArg {
				t.Error(i, string(letter), e)
			}
		}
	}
}

// P10.2: the letters of each kind, and of none.
func TestNames(t *testing.T) {
	want := []string{"", "nbrslctya", "ukd", "u", "u", "u", "u", "kg", "kyd", "", "l", "rs", "", "y", "uk", "uyd", "ua", "u", "kg", "ky", ""}
	for k, s := range want {
		if got := message.Names(api.MsgKind(k)); got != s {
			t.Error(k, got)
		}
	}
	if message.Names(-1) != "" || message.Names(1<<62) != "" {
		t.Error("of none nothing")
	}
}

// P10.1: bounds.
func TestBounds(t *testing.T) {
	with := func(m api.Message, f func(m *api.Message)) api.Message {
		f(&m)
		return m
	}
	bad := []api.Message{
		{}, {Kind: 20}, {Kind: -1}, {Kind: 257},
		with(shake(), func(m *api.Message) { m.Node = 2 }), with(shake(), func(m *api.Message) { m.Node = -1 }),
		with(shake(), func(m *api.Message) { m.Blocks, m.Set = 0, 0 }), with(shake(), func(m *api.Message) { m.Blocks = 65 }), with(shake(), func(m *api.Message) { m.Blocks = -1 << 63 }),
		with(shake(), func(m *api.Message) { m.Role = 0 }), with(shake(), func(m *api.Message) { m.Role = 3 }), with(shake(), func(m *api.Message) { m.State = 0 }), with(shake(), func(m *api.Message) { m.State = 5 }), with(shake(), func(m *api.Message) { m.State = 260 }),
		with(shake(), func(m *api.Message) { m.Line = api.Line{Current: 1, Base: 1} }), with(shake(), func(m *api.Message) { m.Set = 0x100 }), with(shake(), func(m *api.Message) { m.Table = make([]byte, 3001) }),
		{Kind: api.MsgWrite, Block: 64}, {Kind: api.MsgWrite, Block: -1}, {Kind: api.MsgRead, Block: 64}, {Kind: api.MsgVerified, Block: 64},
		{Kind: api.MsgAsk, Digest: make([]byte, 31)}, {Kind: api.MsgAsk, Digest: make([]byte, 33)}, {Kind: api.MsgAsk, Digest: []byte{1}},
		{Kind: api.MsgVerify}, {Kind: api.MsgVerify, Digest: make([]byte, 31)},
		{Kind: api.MsgSync, Yes: true, Data: api.Block{200: 1}}, {Kind: api.MsgData, Data: api.Block{200: 1}},
		{Kind: api.MsgEnd, Line: api.Line{Current: 1, Base: 1}}, {Kind: api.MsgState, Role: 1}, {Kind: api.MsgState, State: 1}, {Kind: api.MsgTable, Table: make([]byte, 3001)},
	}
	for i, m := range bad {
		if b, e := message.Bytes(m); message.May(m) || len(b) != 0 || e != api.ErrArg {
			t.Error(i, e)
		}
	}
}

// P10.1: the bytes, in order.
func TestBytes(t *testing.T) {
	b, _ := message.Bytes(shake())
	want := []byte{1, 1, 8, 2, 4, 0, 0, 0, 0, 0, 0, 0, 9, 0, 0, 0, 0, 0, 0, 0, 8, 0, 0, 0, 0, 0, 0, 0, 7, 0, 0, 0, 0, 0, 0, 0, 6, 1, 0, 0, 0, 0, 0, 0, 0, 0x83, 1, 0, 2, 't', 't'}
	if !bytes.Equal(b, want) {
		t.Error(b)
	}
	for _, x := range []struct {
		m api.Message
		n int
	}{{api.Message{Kind: api.MsgPromote}, 1}, {api.Message{Kind: api.MsgGot}, 9}, {api.Message{Kind: api.MsgWrite}, 266}, {api.Message{Kind: api.MsgSync}, 259}, {api.Message{Kind: api.MsgData}, 266}, {api.Message{Kind: api.MsgAsk}, 4}, {api.Message{Kind: api.MsgEnd}, 33}} {
		if b, e := message.Bytes(x.m); len(b) != x.n || e != api.OK {
			t.Error(x.n, len(b), e)
		}
	}
	w, _ := message.Bytes(api.Message{Kind: api.MsgWrite, Num: 258, Block: 7, Data: api.Block{9}})
	if !bytes.Equal(w[:11], []byte{2, 0, 0, 0, 0, 0, 0, 1, 2, 7, 9}) {
		t.Error(w)
	}
	d, _ := message.Bytes(api.Message{Kind: api.MsgData, Num: 1, Yes: true, Data: api.Block{9}})
	if !bytes.Equal(d[:11], []byte{15, 0, 0, 0, 0, 0, 0, 0, 1, 1, 9}) {
		t.Error(d)
	}
}

// P10.1: bytes that are none's.
func TestOf(t *testing.T) {
	promoted := func(b ...byte) []byte { return b }
	long := append([]byte{16, 0, 0, 0, 0, 0, 0, 0, 1, 0x0b, 0xb9}, make([]byte, 3001)...)
	for i, b := range [][]byte{nil, {0}, {20}, {255}, promoted(13), promoted(13, 2), promoted(13, 1, 0), {11, 0, 1}, {11, 1, 5}, {19, 64, 1}, {18, 0, 0, 0}, {7, 0, 0, 1, 5}, {9, 0}, long} {
		if m, e := message.Of(b); e != api.ErrBytes || !message.Same(m, api.Message{}) {
			t.Error(i, e)
		}
	}
	b, _ := message.Bytes(shake())
	for _, at := range []int{1, 2, 3, 4, 37, 38, 46, 47} {
		x := bytes.Clone(b)
		x[at] = 200
		if _, e := message.Of(x); e != api.ErrBytes {
			t.Error(at, e)
		}
	}
}

// P10.1, P10.2: what is read, and a copy, share nothing.
func TestCopy(t *testing.T) {
	m := shake()
	m.Digest = []byte{1, 2}
	c := message.Copy(m)
	if !message.Same(c, m) {
		t.Error("Copy")
	}
	m.Table[0], m.Digest[0] = 'x', 9
	if c.Table[0] != 't' || c.Digest[0] != 1 {
		t.Error("shared")
	}
	b, _ := message.Bytes(shake())
	x, _ := message.Of(b)
	for i := range b {
		b[i] = 0
	}
	if !message.Same(x, shake()) {
		t.Error("what is read shares bytes")
	}
}

// P10.2: Same looks at all fields.
func TestSame(t *testing.T) {
	for letter, f := range fields {
		var m api.Message
		if f(&m); message.Same(m, api.Message{}) || !message.Same(m, m) {
			t.Error(string(letter))
		}
	}
	if message.Same(api.Message{Kind: 1}, api.Message{Kind: 2}) || !message.Same(api.Message{Table: []byte{}}, api.Message{Digest: []byte{}}) {
		t.Error("Same")
	}
}
