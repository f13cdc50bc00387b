package packet_test

import (
	"bytes"
	"crypto/sha256"
	"testing"

	"gemel/api"
	"gemel/packet"
)

var good = []api.Packet{
	{Kind: api.PacketHello, Mine: 5},
	{Kind: api.PacketHello, Mine: 1<<64 - 1, Theirs: 7},
	{Kind: api.PacketData, Mine: 5, Theirs: 6, Seq: 1, Payload: []byte{9}},
	{Kind: api.PacketData, Mine: 5, Theirs: 6, Seq: 1<<64 - 1, Ack: 1<<64 - 1, Payload: bytes.Repeat([]byte{3}, 4000)},
	{Kind: api.PacketAck, Mine: 5, Theirs: 6},
	{Kind: api.PacketAck, Mine: 5, Theirs: 6, Ack: 258},
	{Kind: api.PacketClose, Mine: 5, Theirs: 5},
}

var bad = []api.Packet{
	{}, {Mine: 1, Theirs: 1}, {Kind: 5, Mine: 1, Theirs: 1}, {Kind: -1, Mine: 1, Theirs: 1}, {Kind: 257, Mine: 1, Theirs: 1},
	{Kind: api.PacketHello}, {Kind: api.PacketHello, Theirs: 1}, {Kind: api.PacketHello, Mine: 1, Ack: 1}, {Kind: api.PacketHello, Mine: 1, Seq: 1}, {Kind: api.PacketHello, Mine: 1, Payload: []byte{0}},
	{Kind: api.PacketData, Mine: 1, Theirs: 1, Seq: 1}, {Kind: api.PacketData, Mine: 1, Theirs: 1, Payload: []byte{1}}, {Kind: api.PacketData, Mine: 1, Theirs: 1, Seq: 1, Payload: make([]byte, 4001)}, {Kind: api.PacketData, Mine: 1, Seq: 1, Payload: []byte{1}}, {Kind: api.PacketData, Theirs: 1, Seq: 1, Payload: []byte{1}},
	{Kind: api.PacketAck, Mine: 1}, {Kind: api.PacketAck, Theirs: 1}, {Kind: api.PacketAck, Mine: 1, Theirs: 1, Seq: 1}, {Kind: api.PacketAck, Mine: 1, Theirs: 1, Payload: []byte{1}},
	{Kind: api.PacketClose, Mine: 1}, {Kind: api.PacketClose, Theirs: 1}, {Kind: api.PacketClose, Mine: 1, Theirs: 1, Ack: 1}, {Kind: api.PacketClose, Mine: 1, Theirs: 1, Seq: 1}, {Kind: api.PacketClose, Mine: 1, Theirs: 1, Payload: []byte{1}},
}

// P8.1, P8.2: what may be is packed, and read as it was; what may not is not.
func TestMay(t *testing.T) {
	for i, p := range good {
		b, e := packet.Bytes(p)
		if !packet.May(p) || e != api.OK {
			t.Error(i, e)
		}
		q, e := packet.Of(b)
		if !packet.Same(p, q) || e != api.OK {
			t.Error(i, q, e)
		}
		if again, _ := packet.Bytes(q); !bytes.Equal(again, b) {
			t.Error(i)
		}
	}
	for i, p := range bad {
		if b, e := packet.Bytes(p); packet.May(p) || len(b) != 0 || e != api.ErrArg {
			t.Error(i, e)
		}
	}
}

func seal(b []byte) []byte {
	sum := sha256.Sum256(b)
	return append(b[:len(b):len(b)], sum[:4]...)
}

// P8.1: the bytes, field by field.
func TestBytes(t *testing.T) {
	mine, theirs, ack, seq := []byte{0, 0, 0, 0, 0, 0, 1, 2}, []byte{0, 0, 0, 0, 0, 0, 0, 6}, []byte{0, 0, 0, 0, 0, 0, 0, 7}, []byte{0, 0, 0, 0, 0, 0, 0, 8}
	for i, x := range []struct {
		p    api.Packet
		want []byte
	}{
		{api.Packet{Kind: api.PacketHello, Mine: 258, Theirs: 6}, bytes.Join([][]byte{{'G', 'P', 1}, mine, theirs}, nil)},
		{api.Packet{Kind: api.PacketData, Mine: 258, Theirs: 6, Ack: 7, Seq: 8, Payload: []byte("xy")}, bytes.Join([][]byte{{'G', 'P', 2}, mine, theirs, ack, seq, {0, 2, 'x', 'y'}}, nil)},
		{api.Packet{Kind: api.PacketAck, Mine: 258, Theirs: 6, Ack: 7}, bytes.Join([][]byte{{'G', 'P', 3}, mine, theirs, ack}, nil)},
		{api.Packet{Kind: api.PacketClose, Mine: 258, Theirs: 6}, bytes.Join([][]byte{{'G', 'P', 4}, mine, theirs}, nil)},
	} {
		if b, e := packet.Bytes(x.p); !bytes.Equal(b, seal(x.want)) || e != api.OK {
			t.Errorf("%d %x %v", i, b, e)
		}
	}
	if b, _ := packet.Bytes(good[0]); len(b) != 23 {
		t.Error(len(b))
	}
}

// P8.1: bytes that are none's.
func TestOf(t *testing.T) {
	for i, p := range good {
		b, _ := packet.Bytes(p)
		for j := 0; j < len(b) && j < 60; j++ {
			x := bytes.Clone(b)
			x[j] ^= 2
			if q, e := packet.Of(x); !packet.Same(q, api.Packet{}) || e != api.ErrBytes {
				t.Error(i, j, e)
			}
		}
		for _, x := range [][]byte{nil, b[:1], b[:4], b[:6], b[:len(b)-1], append(bytes.Clone(b), 0), seal(append(bytes.Clone(b[:len(b)-4]), 0)), seal(bytes.Clone(b[:len(b)-5]))} {
			if _, e := packet.Of(x); e != api.ErrBytes {
				t.Error(i, len(x), e)
			}
		}
	}
	hello := func(kind byte, mine, theirs byte, rest ...byte) []byte {
		b := append([]byte{'G', 'P', kind}, make([]byte, 16)...)
		b[10], b[18] = mine, theirs
		return seal(append(b, rest...))
	}
	data := append(make([]byte, 16), 0, 1, 5)
	for i, b := range [][]byte{hello(0, 1, 1), hello(5, 1, 1), hello(1, 0, 1), hello(4, 1, 0), hello(4, 0, 1), hello(3, 1, 1), hello(2, 1, 1, data...), hello(2, 1, 1, append(make([]byte, 15), 1, 0, 0)...), seal([]byte("XP")), seal([]byte("GP")), seal(nil)} {
		if _, e := packet.Of(b); e != api.ErrBytes {
			t.Error(i, e)
		}
	}
	data[15] = 1
	if p, e := packet.Of(hello(2, 1, 1, data...)); e != api.OK || p.Seq != 1 {
		t.Error(p, e)
	}
}

// P8.1: what is read is the caller's, and the bytes are left.
func TestOfCopies(t *testing.T) {
	b, _ := packet.Bytes(good[2])
	p, _ := packet.Of(b)
	for i := range b {
		b[i] = 0
	}
	if !packet.Same(p, good[2]) {
		t.Error(p)
	}
}

// P8.1: Same looks at all fields; nil and empty payloads are one.
func TestSame(t *testing.T) {
	a := api.Packet{Kind: 2, Mine: 1, Theirs: 2, Ack: 3, Seq: 4, Payload: []byte{5}}
	for i, f := range []func(p *api.Packet){func(p *api.Packet) { p.Kind = 3 }, func(p *api.Packet) { p.Mine = 9 }, func(p *api.Packet) { p.Theirs = 9 }, func(p *api.Packet) { p.Ack = 9 }, func(p *api.Packet) { p.Seq = 9 }, func(p *api.Packet) { p.Payload = []byte{6} }, func(p *api.Packet) { p.Payload = nil }} {
		b := a
		if f(&b); packet.Same(a, b) || !packet.Same(b, b) {
			t.Error(i)
		}
	}
	if !packet.Same(api.Packet{}, api.Packet{Payload: []byte{}}) {
		t.Error("nil and empty are one")
	}
}
