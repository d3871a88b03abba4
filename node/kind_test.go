package node_test

import (
	"bytes"
	"math/rand"
	"testing"

	"entrust/api"
	"entrust/node"
)

// The kinds of texts, as the chapter numbers them.
const (
	other   = 0
	nothing = 1
	leaf    = 2
	joined  = 3
)

// isKind fails if a text isn't of a kind.
func isKind(t *testing.T, text []byte, want int) {
	t.Helper()
	if got := node.Kind(text); got != want {
		t.Errorf("%d bytes, %x: %d, not %d", len(text), text[:min(len(text), 100)], got, want)
	}
}

// kindOf is the kind as the chapter has it: by the text's size, its first byte, and a node's height.
func kindOf(text []byte) int {
	switch {
	case len(text) == 1 && text[0] == 0:
		return nothing
	case len(text) == 61 && text[0] == 1:
		return leaf
	case len(text) == 66 && text[0] == 2 && text[1] != 0 && text[1] <= 32:
		return joined
	}
	return other
}

// TestKind is P8.1: texts of nothing, of leaves of any index and sealed block, and of nodes of any height and hashes.
func TestKind(t *testing.T) {
	rnd := rand.New(rand.NewSource(4))
	isKind(t, []byte{0}, nothing)
	for _, index := range indices(rnd) {
		isKind(t, mustLeaf(t, index, sealed(bytesOf(rnd, 56))), leaf)
	}
	for _, x := range sealedBlocks(t, rnd) {
		isKind(t, mustLeaf(t, 3, x), leaf)
	}
	for height := 1; height <= 32; height++ {
		isKind(t, mustJoin(t, height, api.Hash{}, api.Hash{}), joined)
		isKind(t, mustJoin(t, height, api.Hash(bytes.Repeat([]byte{255}, 32)), api.Hash(bytesOf(rnd, 32))), joined)
	}
	for range 200 {
		isKind(t, append([]byte{1}, bytesOf(rnd, 60)...), leaf)
		isKind(t, append([]byte{2, byte(1 + rnd.Intn(32))}, bytesOf(rnd, 64)...), joined)
	}
}

// TestKindOfNoBytes is P8.1: no bytes are of no kind.
func TestKindOfNoBytes(t *testing.T) {
	isKind(t, nil, other)
	isKind(t, []byte{}, other)
	isKind(t, []byte{0, 1}[:0], other)
}

// someTexts are texts of each kind, with the kind.
func someTexts(t *testing.T, rnd *rand.Rand) map[string]int {
	t.Helper()
	out := map[string]int{"\x00": nothing}
	for _, b := range [][]byte{make([]byte, 56), count(1, 56), bytes.Repeat([]byte{255}, 56), bytesOf(rnd, 56)} {
		out[string(mustLeaf(t, 0, sealed(b)))] = leaf
		out[string(mustLeaf(t, 1<<32-1, sealed(b)))] = leaf
	}
	for _, height := range []int{1, 2, 31, 32} {
		out[string(mustJoin(t, height, api.Hash{}, api.Hash{}))] = joined
		out[string(mustJoin(t, height, api.Hash(bytesOf(rnd, 32)), api.Hash(bytesOf(rnd, 32))))] = joined
	}
	return out
}

// TestKindOfOtherSize is P8.1: what has one byte less or more than a text, in front or behind, is of no kind, and neither is what is cut or doubled.
func TestKindOfOtherSize(t *testing.T) {
	for s, kind := range someTexts(t, rand.New(rand.NewSource(5))) {
		text := []byte(s)
		isKind(t, text, kind)
		isKind(t, text[1:], other)
		for a := range 256 {
			isKind(t, append(bytes.Clone(text), byte(a)), other)
			isKind(t, append([]byte{byte(a)}, text...), other)
		}
		for n := range text {
			if n != 1 || text[0] != 0 {
				isKind(t, text[:n], other)
			}
		}
		isKind(t, append(bytes.Clone(text), text...), other)
	}
}

// TestKindOfOtherFirstByte is P8.1: with any other first byte a text is of no kind.
func TestKindOfOtherFirstByte(t *testing.T) {
	for s, kind := range someTexts(t, rand.New(rand.NewSource(6))) {
		text := []byte(s)
		for a := range 256 {
			text[0] = byte(a)
			if a == kind-1 {
				isKind(t, text, kind)
			} else {
				isKind(t, text, other)
			}
		}
	}
}

// TestKindOfOtherHeight is P8.1: nodes' texts with every height there is in a byte: none is one but those of 1 to 32.
func TestKindOfOtherHeight(t *testing.T) {
	rnd := rand.New(rand.NewSource(7))
	text := mustJoin(t, 5, api.Hash(bytesOf(rnd, 32)), api.Hash(bytesOf(rnd, 32)))
	for a := range 256 {
		text[1] = byte(a)
		if a >= 1 && a <= 32 {
			isKind(t, text, joined)
		} else {
			isKind(t, text, other)
		}
	}
}

// TestKindOfAnySize is P8.1: each size of up to 300 bytes, and some greater ones, with each first byte there is a kind for, and with others.
func TestKindOfAnySize(t *testing.T) {
	rnd := rand.New(rand.NewSource(8))
	sizes := []int{511, 512, 1<<8 + 1, 1<<8 + 61, 1<<8 + 66, 1<<16 + 1, 1<<16 + 61, 1<<16 + 66, 1 << 20}
	for n := range 300 {
		sizes = append(sizes, n)
	}
	for _, n := range sizes {
		text := bytesOf(rnd, n)
		for _, first := range []byte{0, 1, 2, 3, 4, 127, 128, 254, 255} {
			for _, second := range []byte{0, 1, 16, 32, 33, 255} {
				if n > 0 {
					text[0] = first
				}
				if n > 1 {
					text[1] = second
				}
				isKind(t, text, kindOf(text))
			}
		}
	}
	for a := range 256 {
		isKind(t, []byte{byte(a)}, kindOf([]byte{byte(a)}))
	}
}
