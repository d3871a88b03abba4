package sha_test

import (
	"bytes"
	"encoding/binary"
	"math/rand"
	"slices"
	"testing"

	"entrust/sha"
)

// padded is the padded text as the chapter's words have it: a zero more for as long as no block is full.
func padded(b []byte) []byte {
	out := append(slices.Clone(b), 128)
	for (len(out)+8)%64 != 0 {
		out = append(out, 0)
	}
	return binary.BigEndian.AppendUint64(out, 8*uint64(len(b)))
}

// TestPad is P2.1: texts of every length up to that of several blocks, and those whose length in bits needs one byte more.
func TestPad(t *testing.T) {
	rnd := rand.New(rand.NewSource(6))
	lengths := []int{1<<13 - 1, 1 << 13, 1<<21 - 1, 1 << 21, 1<<21 + 56}
	for n := range 400 {
		lengths = append(lengths, n)
	}
	for _, n := range lengths {
		for _, b := range [][]byte{text(rnd, n), make([]byte, n), bytes.Repeat([]byte{128}, n)} {
			if out := sha.Pad(b); !bytes.Equal(out, padded(b)) {
				t.Fatalf("%d bytes: %d bytes", n, len(out))
			}
		}
	}
	if !bytes.Equal(sha.Pad(nil), append([]byte{128}, make([]byte, 63)...)) {
		t.Error(sha.Pad(nil))
	}
}

// TestPadBlocks is P2.1: how many blocks the texts at the edges have.
func TestPadBlocks(t *testing.T) {
	for _, x := range []struct{ n, blocks int }{{0, 1}, {54, 1}, {55, 1}, {56, 2}, {63, 2}, {64, 2}, {65, 2}, {119, 2}, {120, 3}, {127, 3}, {128, 3}} {
		if out := sha.Pad(make([]byte, x.n)); len(out) != 64*x.blocks {
			t.Errorf("%d bytes: %d bytes", x.n, len(out))
		}
	}
}

// TestPadLong is P2.1: the number of bits isn't one of 32 bits.
func TestPadLong(t *testing.T) {
	const n = 1 << 29
	out := sha.Pad(make([]byte, n))
	if len(out) != n+64 || !bytes.Equal(out[n:], append([]byte{128, 59: 1}, 0, 0, 0, 0)) {
		t.Errorf("%d bytes, ending with %x", len(out), out[len(out)-64:])
	}
}

// TestPadIsNew is P2.1: the padded text is new memory, whether or not the text fills its blocks.
func TestPadIsNew(t *testing.T) {
	rnd := rand.New(rand.NewSource(7))
	for _, n := range edges() {
		b := text(rnd, n+100)[:n]
		before := slices.Clone(b)
		first, second := sha.Pad(b), sha.Pad(b)
		for i := range first {
			first[i] ^= 255
		}
		if !bytes.Equal(b, before) || !bytes.Equal(second, padded(before)) || !bytes.Equal(sha.Pad(b), second) {
			t.Errorf("%d bytes: shared", n)
		}
	}
}
