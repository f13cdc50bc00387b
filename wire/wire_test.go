package wire_test

import (
	"bytes"
	"strings"
	"testing"

	"gemel/api"
	"gemel/wire"
)

// P1.1: each call puts its bytes, and answers the writer.
func TestWriterPuts(t *testing.T) {
	w := new(wire.Writer)
	for i, x := range []*wire.Writer{w.Number(255, 1), w.Number(258, 2), w.Number(1, 4), w.Number(1<<63, 8), w.Flag(true), w.Flag(false), w.Bytes([]byte{9, 8}), w.Bytes(nil), w.Blob([]byte{7}), w.Blob(nil), w.Count(0), w.Count(255), w.Block(api.Block{5, 6})} {
		if x != w {
			t.Error(i, "another writer")
		}
	}
	want := append([]byte{255, 1, 2, 0, 0, 0, 1, 128, 0, 0, 0, 0, 0, 0, 0, 1, 0, 9, 8, 0, 1, 7, 0, 0, 0, 255, 5, 6}, make([]byte, 254)...)
	if b, e := w.End(); e != api.OK || !bytes.Equal(b, want) {
		t.Errorf("%v %v", b, e)
	}
	if b, e := new(wire.Writer).End(); e != api.OK || len(b) != 0 {
		t.Error("a zero writer has put nothing", b, e)
	}
}

// P1.1: the writer stays behind End, and what was answered is the caller's.
func TestWriterStays(t *testing.T) {
	w := new(wire.Writer).Number(1, 1)
	a, _ := w.End()
	a[0] = 77
	in := []byte{2}
	w.Bytes(in)
	in[0] = 99
	b, e := w.Number(3, 1).End()
	if e != api.OK || !bytes.Equal(b, []byte{1, 2, 3}) {
		t.Error(b, e)
	}
}

// P1.1: what can't be put lets a writer fail, for good.
func TestWriterFails(t *testing.T) {
	long := make([]byte, 65536)
	for i, f := range []func(w *wire.Writer){
		func(w *wire.Writer) { w.Number(256, 1) }, func(w *wire.Writer) { w.Number(1<<16, 2) }, func(w *wire.Writer) { w.Number(1<<32, 4) },
		func(w *wire.Writer) { w.Number(0, 0) }, func(w *wire.Writer) { w.Number(0, 3) }, func(w *wire.Writer) { w.Number(0, 9) }, func(w *wire.Writer) { w.Number(0, -8) }, func(w *wire.Writer) { w.Number(0, 1<<62) },
		func(w *wire.Writer) { w.Blob(long) }, func(w *wire.Writer) { w.Count(256) }, func(w *wire.Writer) { w.Count(-1) }, func(w *wire.Writer) { w.Count(-1 << 63) },
	} {
		w := new(wire.Writer).Number(1, 1)
		f(w)
		w.Number(1, 1).Flag(true).Bytes(long).Blob(nil).Count(1).Block(api.Block{})
		if b, e := w.End(); e != api.ErrArg || len(b) != 0 {
			t.Error(i, len(b), e)
		}
	}
	if b, e := new(wire.Writer).Blob(long[:65535]).End(); e != api.OK || len(b) != 65537 {
		t.Error("the longest blob", len(b), e)
	}
	var none *wire.Writer
	if none.Number(1, 1).Flag(true).Bytes([]byte{1}).Blob(nil).Count(-1).Block(api.Block{}) != nil {
		t.Error("nil answers nil")
	}
	if b, e := none.End(); e != api.ErrNil || len(b) != 0 {
		t.Error(b, e)
	}
}

// P1.2, P1.4: what was put is taken so, and nothing is left.
func TestReaderTakes(t *testing.T) {
	b, _ := new(wire.Writer).Number(200, 1).Number(50000, 2).Number(1<<31, 4).Number(1<<64-1, 8).Flag(true).Flag(false).Bytes([]byte("abc")).Blob([]byte("de")).Count(9).Block(api.Block{3, 255: 4}).End()
	r := wire.Read(b)
	if r.Left() != len(b) {
		t.Error(r.Left())
	}
	if r.Number(1) != 200 || r.Number(2) != 50000 || r.Number(4) != 1<<31 || r.Number(8) != 1<<64-1 || !r.Flag() || r.Flag() || string(r.Bytes(3)) != "abc" || len(r.Bytes(0)) != 0 || string(r.Blob()) != "de" || r.Count() != 9 || r.Block() != (api.Block{3, 255: 4}) {
		t.Error("not what was put")
	}
	if r.Left() != 0 || r.End() != api.OK {
		t.Error(r.Left(), r.End())
	}
	if wire.Read(nil).End() != api.OK {
		t.Error("a reader of nothing")
	}
}

// P1.2: a reader is of a copy, and what it answers is the caller's.
func TestReaderShares(t *testing.T) {
	b := []byte{1, 2, 0, 1, 3}
	r := wire.Read(b)
	b[0] = 9
	x := r.Bytes(2)
	if x[0] != 1 {
		t.Error(x)
	}
	x = append(x, 66, 66, 66)
	if y := r.Blob(); len(y) != 1 || y[0] != 3 || x[2] != 66 {
		t.Error(y)
	}
}

// P1.2: End lets a reader with bytes left be as it is; one that failed takes noughts.
func TestReaderFails(t *testing.T) {
	r := wire.Read([]byte{5, 6})
	if r.End() != api.ErrBytes || r.Number(1) != 5 || r.End() != api.ErrBytes || r.Number(1) != 6 || r.End() != api.OK {
		t.Error("End changes a reader")
	}
	for i, f := range []func(r *wire.Reader){
		func(r *wire.Reader) { r.Number(4) }, func(r *wire.Reader) { r.Number(0) }, func(r *wire.Reader) { r.Number(-1) }, func(r *wire.Reader) { r.Number(3) },
		func(r *wire.Reader) { r.Flag() }, func(r *wire.Reader) { r.Bytes(4) }, func(r *wire.Reader) { r.Bytes(-1) }, func(r *wire.Reader) { r.Bytes(1 << 62) },
		func(r *wire.Reader) { r.Blob() }, func(r *wire.Reader) { r.Block() }, func(r *wire.Reader) { r.Fail() },
	} {
		r := wire.Read([]byte{2, 0, 5})
		f(r)
		if r.End() != api.ErrBytes || r.Left() != 0 || r.Number(1) != 0 || r.Flag() || len(r.Bytes(1)) != 0 || len(r.Blob()) != 0 || r.Count() != 0 || r.Block() != (api.Block{}) || r.End() != api.ErrBytes {
			t.Error(i, r.End())
		}
	}
	for _, r := range []*wire.Reader{nil, {}} {
		r.Fail()
		if r.End() != api.ErrNil || r.Left() != 0 || r.Number(1) != 0 || r.Flag() || len(r.Bytes(0)) != 0 || len(r.Blob()) != 0 || r.Count() != 0 || r.Block() != (api.Block{}) {
			t.Error("nil")
		}
	}
}

// P1.3: Digits and OfDigits.
func TestDigits(t *testing.T) {
	all := make([]byte, 256)
	for i := range all {
		all[i] = byte(i)
	}
	s := wire.Digits(all)
	if len(s) != 512 || s[:6] != "000102" || s[506:] != "fdfeff" || wire.Digits(nil) != "" {
		t.Error(s)
	}
	if b, e := wire.OfDigits(s); e != api.OK || !bytes.Equal(b, all) {
		t.Error(b, e)
	}
	if b, e := wire.OfDigits(""); e != api.OK || len(b) != 0 {
		t.Error(b, e)
	}
	for _, s := range []string{"0", "000", "0g", "A0", "0A", " 00", "0\n", "\xff\xff", "éé", "0x00", "00é"} {
		if b, e := wire.OfDigits(s); e != api.ErrBytes || len(b) != 0 {
			t.Error(s, b, e)
		}
	}
}

// P1.3: Decimal.
func TestDecimal(t *testing.T) {
	great := strings.Repeat("9", 5000)
	for _, x := range []struct {
		s    string
		most uint64
		n    uint64
		e    api.Errno
	}{
		{"0", 0, 0, api.OK}, {"1", 0, 0, api.ErrRange}, {"9", 9, 9, api.OK}, {"10", 9, 0, api.ErrRange}, {"65535", 65535, 65535, api.OK}, {"65536", 65535, 0, api.ErrRange},
		{"18446744073709551615", 1<<64 - 1, 1<<64 - 1, api.OK}, {"18446744073709551616", 1<<64 - 1, 0, api.ErrRange}, {"18446744073709551615", 1<<64 - 2, 0, api.ErrRange}, {"100000000000000000000", 1<<64 - 1, 0, api.ErrRange},
		{great, 1<<64 - 1, 0, api.ErrRange}, {great + "x", 1<<64 - 1, 0, api.ErrBytes}, {"9x", 1, 0, api.ErrBytes},
		{"", 9, 0, api.ErrBytes}, {"00", 9, 0, api.ErrBytes}, {"01", 9, 0, api.ErrBytes}, {"-1", 9, 0, api.ErrBytes}, {"+1", 9, 0, api.ErrBytes}, {" 1", 9, 0, api.ErrBytes}, {"1 ", 9, 0, api.ErrBytes}, {"a", 99, 0, api.ErrBytes}, {"\u0663", 9, 0, api.ErrBytes}, {"1\xff", 9, 0, api.ErrBytes},
	} {
		if n, e := wire.Decimal(x.s, x.most); n != x.n || e != x.e {
			t.Error(x.s, x.most, n, e)
		}
	}
}
