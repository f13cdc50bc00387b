package reserve

import (
	"gemel/api"
	"gemel/disk"
	"gemel/sha"
	"gemel/wire"
)

const (
	name    = "GERV"
	slots   = 2
	mostSeq = 1 << 62
	sumAt   = api.BlockSize - 8
)

// put puts a table, behind what was put.
func put(w *wire.Writer, t api.Reserve) *wire.Writer {
	w.Number(t.Gen, 8).Number(uint64(t.Type), 1).Number(uint64(t.Holder), 1)
	for _, key := range t.Keys {
		w.Number(key, 8)
	}
	return w
}

func take(r *wire.Reader) api.Reserve {
	t := api.Reserve{Gen: r.Number(8), Type: api.ResType(r.Number(1)), Holder: int(r.Number(1))}
	for i := range t.Keys {
		t.Keys[i] = r.Number(8)
	}
	return t
}

// Bytes are a table's bytes.
func Bytes(t api.Reserve) ([]byte, api.Errno) {
	if !May(t) {
		return nil, api.ErrArg
	}
	return put(new(wire.Writer), t).End()
}

// OfBytes is the table of bytes.
func OfBytes(b []byte) (api.Reserve, api.Errno) {
	r := wire.Read(b)
	t := take(r)
	if r.End() != api.OK || !May(t) {
		return api.Reserve{}, api.ErrBytes
	}
	return t, api.OK
}

// Block is a table's block.
func Block(t api.Reserve, seq uint64) (api.Block, api.Errno) {
	if !May(t) {
		return api.Block{}, api.ErrArg
	}
	var b api.Block
	said, _ := put(new(wire.Writer).Bytes([]byte(name)).Number(seq, 8), t).End()
	copy(b[:], said)
	sum, _ := new(wire.Writer).Number(sha.Short(b[:sumAt]), 8).End()
	copy(b[sumAt:], sum)
	return b, api.OK
}

// Of is what a block says.
func Of(b api.Block) (api.Reserve, uint64, api.Errno) {
	r := wire.Read(b[len(name):])
	seq := r.Number(8)
	t := take(r)
	if x, e := Block(t, seq); e != api.OK || x != b {
		return api.Reserve{}, 0, api.ErrBytes
	}
	return t, seq, api.OK
}

func check(d *disk.Disk, at int) api.Errno {
	switch {
	case d.Blocks() == 0:
		return api.ErrNil
	case at < 0 || at > d.Blocks()-slots:
		return api.ErrArg
	}
	return api.OK
}

// counts is the slot that counts, and what it says; -1 if none does.
func counts(d *disk.Disk, at int) (int, api.Reserve, uint64, api.Errno) {
	slot, table, seq := -1, api.Reserve{}, uint64(0)
	for i := range slots {
		b, e := d.Read(at + i)
		if e != api.OK {
			return -1, api.Reserve{}, 0, e
		}
		if t, s, e := Of(b); e == api.OK && (slot < 0 || s > seq) {
			slot, table, seq = i, t, s
		}
	}
	return slot, table, seq, api.OK
}

// Load is what counts, and its Seq.
func Load(d *disk.Disk, at int) (api.Reserve, uint64, api.Errno) {
	if e := check(d, at); e != api.OK {
		return api.Reserve{}, 0, e
	}
	slot, t, seq, e := counts(d, at)
	if e == api.OK && slot < 0 {
		e = api.ErrNone
	}
	return t, seq, e
}

// write writes a block that lasts.
func write(d *disk.Disk, at int, b api.Block) api.Errno {
	if e := d.Write(at, b); e != api.OK {
		return e
	}
	return d.Flush()
}

// Save saves a table into the slot that does not count.
func Save(d *disk.Disk, at int, t api.Reserve) (uint64, api.Errno) {
	e := check(d, at)
	if e == api.OK && !May(t) {
		e = api.ErrArg
	}
	if e != api.OK {
		return 0, e
	}
	slot, _, seq, e := counts(d, at)
	if e != api.OK {
		return 0, e
	}
	if seq >= mostSeq {
		return 0, api.ErrFull
	}
	seq++
	to := at
	if slot == 0 {
		to = at + 1
	}
	b, _ := Block(t, seq)
	if e := write(d, to, b); e != api.OK {
		return 0, e
	}
	return seq, api.OK
}

// Format begins the slots: nobody is registered.
func Format(d *disk.Disk, at int) api.Errno {
	if e := check(d, at); e != api.OK {
		return e
	}
	if e := d.Write(at+1, api.Block{}); e != api.OK {
		return e
	}
	b, _ := Block(api.Reserve{}, 1)
	return write(d, at, b)
}
