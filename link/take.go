package link

import (
	"gemel/api"
	"gemel/packet"
)

type taking = func(l *Link, p api.Packet) ([][]byte, api.LinkEvent)

// ways is what a datagram does, by its kind.
func ways() map[api.PacketKind]taking {
	return map[api.PacketKind]taking{
		api.PacketHello: (*Link).takeHello,
		api.PacketData:  (*Link).takeOther,
		api.PacketAck:   (*Link).takeOther,
		api.PacketClose: (*Link).takeOther,
	}
}

// Take is a datagram that comes: what is taken, and what happened.
func (l *Link) Take(b []byte) ([][]byte, api.LinkEvent) {
	if l.none() || l.state == api.LinkDown {
		return nil, api.EventNone
	}
	p, e := packet.Of(b)
	if e != api.OK {
		return nil, api.EventNone
	}
	return ways()[p.Kind](l, p)
}

func (l *Link) takeHello(p api.Packet) ([][]byte, api.LinkEvent) {
	if l.state == api.LinkOpening {
		l.theirs, l.idle = p.Mine, 0
		l.hello()
		if p.Theirs != l.mine {
			return nil, api.EventNone
		}
		l.state = api.LinkUp
		return nil, api.EventUp
	}
	if p.Mine != l.theirs {
		return nil, l.fall(api.EventLost)
	}
	l.idle = 0
	if p.Theirs != l.mine {
		l.hello()
	}
	return nil, api.EventNone
}

func (l *Link) takeOther(p api.Packet) ([][]byte, api.LinkEvent) {
	if p.Theirs != l.mine || p.Mine != l.theirs && (l.state == api.LinkUp || l.theirs != 0) {
		return nil, api.EventNone
	}
	event := api.EventNone
	if l.state == api.LinkOpening {
		if p.Kind == api.PacketClose {
			l.theirs = 0
			return nil, api.EventNone
		}
		l.state, l.theirs, event = api.LinkUp, p.Mine, api.EventUp
	}
	l.idle = 0
	if p.Kind == api.PacketClose {
		return nil, l.fall(api.EventLost)
	}
	l.drop(p.Ack)
	if p.Kind != api.PacketData {
		return nil, event
	}
	return l.takeData(p), event
}

// drop lets go of what is acknowledged.
func (l *Link) drop(ack uint64) {
	n := 0
	for n < len(l.sent) && l.sent[n].seq <= ack {
		n++
	}
	l.sent = l.sent[n:len(l.sent):len(l.sent)]
}

func (l *Link) takeData(p api.Packet) [][]byte {
	var got [][]byte
	if p.Seq == l.taken+1 {
		l.taken = p.Seq
		got = [][]byte{p.Payload}
	}
	l.acknowledge()
	return got
}
