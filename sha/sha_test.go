package sha_test

import (
	"bytes"
	"crypto/sha256"
	"encoding/binary"
	"math/rand"
	"testing"

	"gemel/sha"
)

// P2.1: the sum of messages of all lengths around the blocks' ends.
func TestSum(t *testing.T) {
	r := rand.New(rand.NewSource(1))
	for n := 0; n < 400; n++ {
		b := make([]byte, n)
		r.Read(b)
		if sha.Sum(b) != sha256.Sum256(b) {
			t.Fatal(n)
		}
	}
	for _, n := range []int{4000, 65536, 100001} {
		b := make([]byte, n)
		r.Read(b)
		if sha.Sum(b) != sha256.Sum256(b) {
			t.Fatal(n)
		}
	}
	if s := sha.Sum([]byte("abc")); s[0] != 186 || s[1] != 120 || s[2] != 22 || s[3] != 191 {
		t.Error(s)
	}
	if sha.Sum(nil) != sha.Sum([]byte{}) {
		t.Error("nil and empty are one")
	}
}

// P2.1: Short is the first 8 bytes, the highest first.
func TestShort(t *testing.T) {
	for _, s := range []string{"", "abc", "gemel"} {
		x := sha256.Sum256([]byte(s))
		if sha.Short([]byte(s)) != binary.BigEndian.Uint64(x[:8]) {
			t.Error(s)
		}
	}
}

// P2.1: the constants that the standard lists, at the ends and in between; of none 0.
func TestConstant(t *testing.T) {
	for i, want := range map[int]uint32{0: 0x428a2f98, 1: 0x71374491, 2: 0xb5c0fbcf, 3: 0xe9b5dba5, 15: 0xc19bf174, 31: 0x14292967, 47: 0x106aa070, 62: 0xbef9a3f7, 63: 0xc67178f2, -1: 0, 64: 0, 1 << 62: 0, -1 << 63: 0} {
		if got := sha.Constant(i); got != want {
			t.Errorf("%d %x", i, got)
		}
	}
}

// P2.2: sums do not hang on one another, and leave the bytes as they are, also those behind them.
func TestSumLeavesBytes(t *testing.T) {
	back := bytes.Repeat([]byte{7}, 200)
	b := back[:70]
	first := sha.Sum(b)
	sha.Sum([]byte("another one"))
	if sha.Sum(b) != first || !bytes.Equal(back, bytes.Repeat([]byte{7}, 200)) {
		t.Error("changed")
	}
}

func BenchmarkSum(b *testing.B) {
	x := make([]byte, 248)
	for range b.N {
		sha.Sum(x)
	}
}
