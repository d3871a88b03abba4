package node_test

import (
	"bytes"
	"crypto/sha256"
	"encoding/binary"
	"encoding/hex"
	"math"
	"math/rand"
	"testing"

	"entrust/api"
	"entrust/node"
	"entrust/seal"
	"entrust/sha"
)

// bytesOf is n random bytes.
func bytesOf(rnd *rand.Rand, n int) []byte {
	b := make([]byte, n)
	rnd.Read(b)
	return b
}

// count is n bytes that count from first on.
func count(first, n int) []byte {
	b := make([]byte, n)
	for i := range b {
		b[i] = byte(first + i)
	}
	return b
}

// hash is the hash that is written in hexadecimal digits.
func hash(t *testing.T, s string) api.Hash {
	t.Helper()
	b, err := hex.DecodeString(s)
	if err != nil || len(b) != len(api.Hash{}) {
		t.Fatal(s, err)
	}
	return api.Hash(b)
}

// sealed is the sealed block that has these 56 bytes.
func sealed(b []byte) seal.Sealed {
	return seal.Sealed{Epoch: binary.BigEndian.Uint64(b), Data: api.Block(b[8:40]), Tag: [16]byte(b[40:56])}
}

// indices are indices at the edges, each byte at each place, and random ones.
func indices(rnd *rand.Rand) []uint64 {
	out := []uint64{0, 1, 2, 254, 255, 256, 257, 65535, 65536, 1 << 24, 0x01020304, 0x04030201, math.MaxInt32, 1 << 31, math.MaxUint32 - 1, math.MaxUint32}
	for place := range 4 {
		for a := range 256 {
			out = append(out, uint64(a)<<(8*place))
		}
	}
	for range 100 {
		out = append(out, uint64(rnd.Uint32()))
	}
	return out
}

// badIndices are numbers that are no index, many of them with an index as their last four bytes.
func badIndices() []uint64 {
	return []uint64{1 << 32, 1<<32 + 1, 1<<32 + 255, 1<<33 - 1, 1 << 40, 5 << 32, math.MaxInt64, 1 << 63, 1<<63 + 7, math.MaxUint64 - 1, math.MaxUint64}
}

// badHeights are numbers that are no node's height, many of them with a height as their last byte or their last four.
func badHeights() []int {
	return []int{0, 33, 34, 64, 127, 128, 255, 256, 257, 256 + 32, 1 << 16, 1<<16 + 1, 1<<31 + 1, 1 << 32, 1<<32 + 1, 1<<32 + 32, math.MaxInt - 1, math.MaxInt, -1, -2, -31, -32, -224, -255, -256, -1<<32 + 1, math.MinInt + 1, math.MinInt}
}

// sealedBlocks are sealed blocks of any bytes: zeros, ones, epochs out of range, and random ones; and one that was sealed.
func sealedBlocks(t *testing.T, rnd *rand.Rand) []seal.Sealed {
	t.Helper()
	real, err := seal.New(api.Key{1}).Seal(7, 5, api.Block{2})
	if err != nil {
		t.Fatal(err)
	}
	out := []seal.Sealed{{}, real, sealed(count(1, 56)), sealed(bytes.Repeat([]byte{255}, 56)), {Epoch: 1}, {Epoch: math.MaxUint64}, {Epoch: math.MaxUint64 - 1}, {Data: api.Block{31: 1}}, {Tag: [16]byte{15: 1}}}
	for range 20 {
		out = append(out, sealed(bytesOf(rnd, 56)))
	}
	return out
}

// leafText is a leaf's text as the chapter has it.
func leafText(index uint64, x seal.Sealed) []byte {
	b := append([]byte{1}, byte(index>>24), byte(index>>16), byte(index>>8), byte(index))
	b = binary.BigEndian.AppendUint64(b, x.Epoch)
	return append(append(b, x.Data[:]...), x.Tag[:]...)
}

// joinText is a node's text as the chapter has it.
func joinText(height int, left, right api.Hash) []byte {
	return append(append([]byte{2, byte(height)}, left[:]...), right[:]...)
}

// mustLeaf is a leaf's text, whose hash is Leaf's by Go's library and by layer 2.
func mustLeaf(t *testing.T, index uint64, x seal.Sealed) []byte {
	t.Helper()
	text, err := node.LeafText(index, x)
	if err != nil {
		t.Fatalf("index %d: %v", index, err)
	}
	h, err := node.Leaf(index, x)
	if err != nil || h != sha256.Sum256(text) || h != sha.Sum(text) {
		t.Fatalf("index %d, %x: %x and %v, not the hash of %x", index, x, h, err, text)
	}
	return text
}

// mustJoin is a node's text, whose hash is Join's by Go's library and by layer 2.
func mustJoin(t *testing.T, height int, left, right api.Hash) []byte {
	t.Helper()
	text, err := node.JoinText(height, left, right)
	if err != nil {
		t.Fatalf("height %d: %v", height, err)
	}
	h, err := node.Join(height, left, right)
	if err != nil || h != sha256.Sum256(text) || h != sha.Sum(text) {
		t.Fatalf("height %d, %x, %x: %x and %v, not the hash of %x", height, left, right, h, err, text)
	}
	return text
}

// TestLeafBytes is P8.1: a leaf's text byte by byte: a byte 1, the index, the sealed block's epoch, data and tag.
func TestLeafBytes(t *testing.T) {
	x := seal.Sealed{Epoch: 0x0506070809101112, Data: api.Block(count(0x40, 32)), Tag: [16]byte(count(0x80, 16))}
	want := append([]byte{1, 1, 2, 3, 4, 5, 6, 7, 8, 9, 0x10, 0x11, 0x12}, append(count(0x40, 32), count(0x80, 16)...)...)
	if got := mustLeaf(t, 0x01020304, x); len(got) != 61 || !bytes.Equal(got, want) {
		t.Errorf("%x, not %x", got, want)
	}
	for _, c := range []struct {
		index uint64
		want  [4]byte
	}{
		{0, [4]byte{}}, {1, [4]byte{3: 1}}, {255, [4]byte{3: 255}}, {256, [4]byte{2: 1}}, {1<<32 - 1, [4]byte{255, 255, 255, 255}},
	} {
		if got := mustLeaf(t, c.index, x); len(got) != 61 || got[0] != 1 || [4]byte(got[1:5]) != c.want || !bytes.Equal(got[5:], want[5:]) {
			t.Errorf("index %d: %x", c.index, got)
		}
	}
}

// TestLeaves is P8.1: leaves' texts and hashes, at every edge, of sealed blocks of any bytes.
func TestLeaves(t *testing.T) {
	rnd := rand.New(rand.NewSource(1))
	try := func(index uint64, x seal.Sealed) {
		if got, want := mustLeaf(t, index, x), leafText(index, x); !bytes.Equal(got, want) {
			t.Fatalf("index %d: %x, not %x", index, got, want)
		}
	}
	for _, index := range indices(rnd) {
		try(index, sealed(bytesOf(rnd, 56)))
	}
	for _, x := range sealedBlocks(t, rnd) {
		for _, index := range []uint64{0, 1, 255, 256, math.MaxUint32, uint64(rnd.Uint32())} {
			try(index, x)
			if text := mustLeaf(t, index, x); !bytes.Equal(text[5:], seal.Put(x)) {
				t.Fatalf("index %d: %x hasn't the bytes of %x", index, text, x)
			}
		}
	}
}

// TestKnownLeaves is P8.1: leaves' hashes that another program (Python's hashlib) made.
func TestKnownLeaves(t *testing.T) {
	for _, c := range []struct {
		index uint64
		b     []byte
		want  string
	}{
		{0x01020304, count(1, 56), "d536da464c4c6130ee4c06a60ab17b6e6c395fbaab895fb99e0261eef31cf13e"},
		{0, make([]byte, 56), "d4b5493ae4acf6cddd60faa01f9719424a318148f4bd46c56cefb26d141bedff"},
		{1<<32 - 1, bytes.Repeat([]byte{255}, 56), "aaf37239ab911e3222927d32590f5c99016284f1c42edd68ef3de825ad02481c"},
	} {
		if h, err := node.Leaf(c.index, sealed(c.b)); err != nil || h != hash(t, c.want) {
			t.Errorf("index %d: %x and %v, not %s", c.index, h, err, c.want)
		}
	}
}

// TestNoSuchLeaf is P8.1: an index of 2^32 or more is ErrRange, with a hash of zeros or no text, whatever the sealed block is.
func TestNoSuchLeaf(t *testing.T) {
	for _, x := range sealedBlocks(t, rand.New(rand.NewSource(2))) {
		for _, index := range badIndices() {
			if h, err := node.Leaf(index, x); err != api.ErrRange || h != (api.Hash{}) {
				t.Errorf("index %d: %x and %v", index, h, err)
			}
			if text, err := node.LeafText(index, x); err != api.ErrRange || len(text) != 0 {
				t.Errorf("index %d: %x and %v", index, text, err)
			}
		}
	}
}

// TestJoinBytes is P8.1: a node's text byte by byte: a byte 2, the height, the left hash, the right one, which aren't exchanged.
func TestJoinBytes(t *testing.T) {
	left, right := api.Hash(count(0x40, 32)), api.Hash(count(0x80, 32))
	for height := 1; height <= 32; height++ {
		want := append([]byte{2, byte(height)}, count(0x40, 32)...)
		want = append(want, count(0x80, 32)...)
		if got := mustJoin(t, height, left, right); len(got) != 66 || !bytes.Equal(got, want) {
			t.Errorf("height %d: %x, not %x", height, got, want)
		}
		exchanged := append([]byte{2, byte(height)}, count(0x80, 32)...)
		exchanged = append(exchanged, count(0x40, 32)...)
		if got := mustJoin(t, height, right, left); !bytes.Equal(got, exchanged) {
			t.Errorf("height %d: %x, not %x", height, got, exchanged)
		}
		one, err1 := node.Join(height, left, right)
		two, err2 := node.Join(height, right, left)
		if err1 != nil || err2 != nil || one == two {
			t.Errorf("height %d: %x and %v, exchanged %x and %v", height, one, err1, two, err2)
		}
	}
}

// TestNodes is P8.1: nodes' texts and hashes of every height, with hashes of any bytes, and with two that are the same.
func TestNodes(t *testing.T) {
	rnd := rand.New(rand.NewSource(3))
	ones := api.Hash(bytes.Repeat([]byte{255}, 32))
	for height := 1; height <= 32; height++ {
		same := api.Hash(bytesOf(rnd, 32))
		pairs := [][2]api.Hash{{}, {ones, ones}, {{}, ones}, {ones, {}}, {{31: 1}, {0: 1}}, {same, same}}
		for range 20 {
			pairs = append(pairs, [2]api.Hash{api.Hash(bytesOf(rnd, 32)), api.Hash(bytesOf(rnd, 32))})
		}
		for _, p := range pairs {
			if got, want := mustJoin(t, height, p[0], p[1]), joinText(height, p[0], p[1]); !bytes.Equal(got, want) {
				t.Fatalf("height %d: %x, not %x", height, got, want)
			}
		}
	}
}

// TestKnownNodes is P8.1: nodes' hashes that another program (Python's hashlib) made.
func TestKnownNodes(t *testing.T) {
	left, right := api.Hash(count(0, 32)), api.Hash(count(32, 32))
	for _, c := range []struct {
		height int
		want   string
	}{
		{1, "805f561bec2dc7dde54ae716d9971d25ac145721085bbb7a118d90fd38f3f86b"},
		{2, "739eea4c399dbebfb49e5ac16d57a8bb3ad38cbffa7574e1ea4f2e4ca1a4c60b"},
		{31, "e4ec387dffdb35d46d0b2f7127bfb0d9f9a517fae29d11b224e8b581f02cebba"},
		{32, "d3421e045542e85878e02bbf1fbeeef6eedb9613df011b2dab0fae8ca565b352"},
	} {
		if h, err := node.Join(c.height, left, right); err != nil || h != hash(t, c.want) {
			t.Errorf("height %d: %x and %v, not %s", c.height, h, err, c.want)
		}
	}
	want := hash(t, "a4828ba26ec75c6325e9b75774dea97ff58cf508383262bc42bf548f6b755f24")
	if h, err := node.Join(1, api.Hash{}, api.Hash{}); err != nil || h != want {
		t.Errorf("%x and %v, not %x", h, err, want)
	}
}

// TestNoSuchNode is P8.1: a height that isn't between 1 and 32 is ErrRange, with a hash of zeros or no text.
func TestNoSuchNode(t *testing.T) {
	left, right := api.Hash(count(1, 32)), api.Hash(count(33, 32))
	for _, height := range badHeights() {
		for _, p := range [][2]api.Hash{{}, {left, right}, {left, left}} {
			if h, err := node.Join(height, p[0], p[1]); err != api.ErrRange || h != (api.Hash{}) {
				t.Errorf("height %d: %x and %v", height, h, err)
			}
			if text, err := node.JoinText(height, p[0], p[1]); err != api.ErrRange || len(text) != 0 {
				t.Errorf("height %d: %x and %v", height, text, err)
			}
		}
	}
}
