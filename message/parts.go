package message

import (
	"gemel/api"
	"gemel/wire"
)

const digestSize = 32

// part is what one letter stands for.
type part struct {
	may  func(m *api.Message) bool
	move func(to, from *api.Message)
	put  func(w *wire.Writer, m *api.Message)
	take func(r *wire.Reader, m *api.Message)
}

// number is the part of a number of a size, in bounds. (One below 0 is a great one here.)
func number(size int, least, most uint64, get func(m *api.Message) uint64, set func(m *api.Message, n uint64)) part {
	return part{
		may:  func(m *api.Message) bool { return get(m) >= least && get(m) <= most },
		move: func(to, from *api.Message) { set(to, get(from)) },
		put:  func(w *wire.Writer, m *api.Message) { w.Number(get(m), size) },
		take: func(r *wire.Reader, m *api.Message) { set(m, r.Number(size)) },
	}
}

func flag(at func(m *api.Message) *bool) part {
	return part{
		may:  func(m *api.Message) bool { return true },
		move: func(to, from *api.Message) { *at(to) = *at(from) },
		put:  func(w *wire.Writer, m *api.Message) { w.Flag(*at(m)) },
		take: func(r *wire.Reader, m *api.Message) { *at(m) = r.Flag() },
	}
}

func blob(at func(m *api.Message) *[]byte, mayLen func(n int) bool) part {
	return part{
		may:  func(m *api.Message) bool { return mayLen(len(*at(m))) },
		move: func(to, from *api.Message) { *at(to) = *at(from) },
		put:  func(w *wire.Writer, m *api.Message) { w.Blob(*at(m)) },
		take: func(r *wire.Reader, m *api.Message) { *at(m) = r.Blob() },
	}
}

func linePart() part {
	return part{
		may:  func(m *api.Message) bool { return m.Line.Base == 0 || m.Line.Base != m.Line.Current },
		move: func(to, from *api.Message) { to.Line = from.Line },
		put: func(w *wire.Writer, m *api.Message) {
			w.Number(m.Line.Current, 8).Number(m.Line.Base, 8).Number(m.Line.History[0], 8).Number(m.Line.History[1], 8)
		},
		take: func(r *wire.Reader, m *api.Message) {
			m.Line = api.Line{Current: r.Number(8), Base: r.Number(8), History: [2]uint64{r.Number(8), r.Number(8)}}
		},
	}
}

func dataPart() part {
	return part{
		may:  func(m *api.Message) bool { return true },
		move: func(to, from *api.Message) { to.Data = from.Data },
		put:  func(w *wire.Writer, m *api.Message) { w.Block(m.Data) },
		take: func(r *wire.Reader, m *api.Message) { m.Data = r.Block() },
	}
}

// parts are what all letters stand for.
func parts() map[rune]part {
	const great = 1<<64 - 1
	return map[rune]part{
		'n': number(1, 0, 1, func(m *api.Message) uint64 { return uint64(m.Node) }, func(m *api.Message, n uint64) { m.Node = int(n) }),
		'b': number(1, 1, api.MaxBlocks, func(m *api.Message) uint64 { return uint64(m.Blocks) }, func(m *api.Message, n uint64) { m.Blocks = int(n) }),
		'r': number(1, uint64(api.Secondary), uint64(api.Primary), func(m *api.Message) uint64 { return uint64(m.Role) }, func(m *api.Message, n uint64) { m.Role = api.Role(n) }),
		's': number(1, uint64(api.Diskless), uint64(api.UpToDate), func(m *api.Message) uint64 { return uint64(m.State) }, func(m *api.Message, n uint64) { m.State = api.State(n) }),
		'l': linePart(),
		'c': flag(func(m *api.Message) *bool { return &m.Crashed }),
		't': number(8, 0, great, func(m *api.Message) uint64 { return m.Set }, func(m *api.Message, n uint64) { m.Set = n }),
		'u': number(8, 0, great, func(m *api.Message) uint64 { return m.Num }, func(m *api.Message, n uint64) { m.Num = n }),
		'k': number(1, 0, api.MaxBlocks-1, func(m *api.Message) uint64 { return uint64(m.Block) }, func(m *api.Message, n uint64) { m.Block = int(n) }),
		'y': flag(func(m *api.Message) *bool { return &m.Yes }),
		'd': dataPart(),
		'g': blob(func(m *api.Message) *[]byte { return &m.Digest }, func(n int) bool { return n == 0 || n == digestSize }),
		'a': blob(func(m *api.Message) *[]byte { return &m.Table }, func(n int) bool { return n <= api.MaxTable }),
	}
}
