package sha_test

import (
	"crypto/sha256"
	"encoding"
	"encoding/binary"
	"hash"
	"math/rand"
	"testing"

	"entrust/sha"
)

// header is how the stored form of a hash in Go's library begins.
const header = "sha\x03"

// libraryCompress has Go's library compress a state with a block: it takes up a hash that is stored with the state, and stores it again behind the block.
func libraryCompress(t *testing.T, state [8]uint32, block [64]byte) [8]uint32 {
	t.Helper()
	stored := []byte(header)
	for _, x := range state {
		stored = binary.BigEndian.AppendUint32(stored, x)
	}
	stored = append(stored, make([]byte, 64+8)...)
	h := sha256.New().(interface {
		hash.Hash
		encoding.BinaryMarshaler
		encoding.BinaryUnmarshaler
	})
	if err := h.UnmarshalBinary(stored); err != nil {
		t.Fatal(err)
	}
	h.Write(block[:])
	stored, err := h.MarshalBinary()
	if err != nil {
		t.Fatal(err)
	}
	for i := range state {
		state[i] = binary.BigEndian.Uint32(stored[len(header)+4*i:])
	}
	return state
}

// checkCompress holds a state, compressed with a block, against that of Go's library.
func checkCompress(t *testing.T, state [8]uint32, block [64]byte) {
	t.Helper()
	if got, want := sha.Compress(state, block), libraryCompress(t, state, block); got != want {
		t.Fatalf("state %x, block %x: %x, not %x", state, block, got, want)
	}
}

// filled is a state and a block with all their bytes like that one.
func filled(b byte) ([8]uint32, [64]byte) {
	var state [8]uint32
	var block [64]byte
	for i := range state {
		state[i] = uint32(b) * 0x01010101
	}
	for i := range block {
		block[i] = b
	}
	return state, block
}

// TestCompressBits is P2.1: each bit of a state and of a block, alone, and alone left out.
func TestCompressBits(t *testing.T) {
	for _, b := range []byte{0, 255, 0x55, 0xaa, 1, 128} {
		state, block := filled(b)
		checkCompress(t, state, block)
		for i := range 8 * 32 {
			other := state
			other[i/32] ^= 1 << (i % 32)
			checkCompress(t, other, block)
		}
		for i := range 64 * 8 {
			other := block
			other[i/8] ^= 1 << (i % 8)
			checkCompress(t, state, other)
		}
	}
}

// TestCompressAny is P2.1: states and blocks of any bits.
func TestCompressAny(t *testing.T) {
	rnd := rand.New(rand.NewSource(8))
	for range 5000 {
		state, block := filled(byte(rnd.Intn(2) * 255))
		for range rnd.Intn(9) {
			state[rnd.Intn(8)] = rnd.Uint32()
		}
		if rnd.Intn(4) > 0 {
			rnd.Read(block[rnd.Intn(64):])
		}
		checkCompress(t, state, block)
	}
}

// TestCompressExample is P2.1: the one block of the text abc, as FIPS 180-4's example has it, and that the arguments stay as they are.
func TestCompressExample(t *testing.T) {
	state := [8]uint32{0x6a09e667, 0xbb67ae85, 0x3c6ef372, 0xa54ff53a, 0x510e527f, 0x9b05688c, 0x1f83d9ab, 0x5be0cd19}
	block := [64]byte{'a', 'b', 'c', 128, 63: 24}
	s, b := state, block
	if got := sha.Compress(s, b); got != [8]uint32{0xba7816bf, 0x8f01cfea, 0x414140de, 0x5dae2223, 0xb00361a3, 0x96177a9c, 0xb410ff61, 0xf20015ad} {
		t.Errorf("%x", got)
	}
	if s != state || b != block || sha.Compress(s, b) != sha.Compress(s, b) {
		t.Errorf("%x %x", s, b)
	}
}
