// Package wire is layer 1: numbers and lists as bytes.
package wire

import "gemel/api"

// Writer puts things behind one another. A zero one has put nothing.
type Writer struct {
	b      []byte
	failed bool
}

// Reader takes things off a copy of some bytes.
type Reader struct {
	b      []byte
	made   bool
	failed bool
}

func maySize(size int) bool {
	return size == 1 || size == 2 || size == 4 || size == 8
}

func (w *Writer) deaf() bool { return w == nil || w.failed }

// Number puts a number of a size.
func (w *Writer) Number(n uint64, size int) *Writer {
	if w.deaf() {
		return w
	}
	if !maySize(size) || size < 8 && n>>(8*size) != 0 {
		w.failed = true
		return w
	}
	for i := size - 1; i >= 0; i-- {
		w.b = append(w.b, byte(n>>(8*i)))
	}
	return w
}

// Flag puts yes or no.
func (w *Writer) Flag(is bool) *Writer {
	if is {
		return w.Number(1, 1)
	}
	return w.Number(0, 1)
}

// Bytes puts bytes as they are.
func (w *Writer) Bytes(b []byte) *Writer {
	if !w.deaf() {
		w.b = append(w.b, b...)
	}
	return w
}

// Blob puts a length and bytes. (A length above 65535 has no room in 2 bytes.)
func (w *Writer) Blob(b []byte) *Writer { return w.Number(uint64(len(b)), 2).Bytes(b) }

// Count puts how many a list has. (One below 0 is a great number here, for which there is no room.)
func (w *Writer) Count(n int) *Writer { return w.Number(uint64(n), 1) }

// Block puts a block.
func (w *Writer) Block(b api.Block) *Writer { return w.Bytes(b[:]) }

// End is all that was put.
func (w *Writer) End() ([]byte, api.Errno) {
	if w == nil {
		return nil, api.ErrNil
	}
	if w.failed {
		return nil, api.ErrArg
	}
	return append([]byte{}, w.b...), api.OK
}

// Read is a reader of a copy of b.
func Read(b []byte) *Reader {
	return &Reader{b: append([]byte{}, b...), made: true}
}

func (r *Reader) deaf() bool { return r == nil || !r.made || r.failed }

// take is the next n bytes, and whether they could be taken.
func (r *Reader) take(n int) ([]byte, bool) {
	if r.deaf() {
		return nil, false
	}
	if n < 0 || n > len(r.b) {
		r.failed = true
		return nil, false
	}
	b := r.b[:n:n]
	r.b = r.b[n:]
	return b, true
}

// Number takes a number of a size.
func (r *Reader) Number(size int) uint64 {
	if !maySize(size) {
		size = -1
	}
	b, ok := r.take(size)
	if !ok {
		return 0
	}
	var n uint64
	for _, x := range b {
		n = n<<8 | uint64(x)
	}
	return n
}

// Flag takes yes or no.
func (r *Reader) Flag() bool {
	n := r.Number(1)
	if n > 1 {
		r.Fail()
	}
	return n == 1
}

// Bytes takes so many bytes.
func (r *Reader) Bytes(n int) []byte {
	b, ok := r.take(n)
	if !ok {
		return nil
	}
	return append([]byte{}, b...)
}

// Blob takes a length and bytes.
func (r *Reader) Blob() []byte { return r.Bytes(int(r.Number(2))) }

// Count takes how many a list has.
func (r *Reader) Count() int { return int(r.Number(1)) }

// Block takes a block.
func (r *Reader) Block() api.Block {
	var out api.Block
	b, _ := r.take(api.BlockSize)
	copy(out[:], b)
	return out
}

// Left is how many bytes are left.
func (r *Reader) Left() int {
	if r.deaf() {
		return 0
	}
	return len(r.b)
}

// Fail lets the reader fail.
func (r *Reader) Fail() {
	if !r.deaf() {
		r.failed = true
	}
}

// End tells whether all was taken, and nothing failed.
func (r *Reader) End() api.Errno {
	if r == nil || !r.made {
		return api.ErrNil
	}
	if r.failed || len(r.b) > 0 {
		return api.ErrBytes
	}
	return api.OK
}
