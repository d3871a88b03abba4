package node_test

import (
	"bytes"
	"math/rand"
	"testing"

	"entrust/api"
	"entrust/node"
	"entrust/seal"
)

// texts are texts that were seen, with what each is of: who has the text of another one fails.
type texts struct {
	t    *testing.T
	seen map[string]string
}

func (x texts) add(text []byte, what string) {
	x.t.Helper()
	if old, is := x.seen[string(text)]; is && old != what {
		x.t.Fatalf("%q and %q have the same text %x", old, what, text)
	}
	x.seen[string(text)] = what
}

// flipped is bytes with one bit inverted.
func flipped(b []byte, bit int) []byte {
	out := bytes.Clone(b)
	out[bit/8] ^= 128 >> (bit % 8)
	return out
}

// TestLeavesWithOtherIndex is P8.2: leaves of one sealed block with unlike indices have unlike texts and unlike hashes.
func TestLeavesWithOtherIndex(t *testing.T) {
	rnd := rand.New(rand.NewSource(9))
	for _, x := range []seal.Sealed{{}, sealed(count(1, 56)), sealed(bytesOf(rnd, 56))} {
		whose, hashes := map[string]uint64{}, map[api.Hash]uint64{}
		for _, index := range indices(rnd) {
			text := mustLeaf(t, index, x)
			if old, is := whose[string(text)]; is && old != index {
				t.Fatalf("indices %d and %d: the same text", old, index)
			}
			whose[string(text)] = index
			h, err := node.Leaf(index, x)
			if old, is := hashes[h]; err != nil || is && old != index {
				t.Fatalf("indices %d and %d: the same hash, or %v", old, index, err)
			}
			hashes[h] = index
		}
		for _, index := range []uint64{0, 1, 0x01020304, 1<<32 - 1} {
			for bit := range 32 {
				if bytes.Equal(mustLeaf(t, index, x), mustLeaf(t, index^1<<bit, x)) {
					t.Fatalf("index %d: the same text with bit %d inverted", index, bit)
				}
			}
		}
	}
}

// TestLeavesWithOtherBlock is P8.2: leaves of one index whose sealed blocks differ in any one of their bits have unlike texts and unlike hashes, which differ in that bit alone.
func TestLeavesWithOtherBlock(t *testing.T) {
	rnd := rand.New(rand.NewSource(10))
	for _, index := range []uint64{0, 1, 255, 256, 1<<32 - 1, uint64(rnd.Uint32())} {
		b := bytesOf(rnd, 56)
		text := mustLeaf(t, index, sealed(b))
		hashes := map[api.Hash]int{}
		for bit := range 8 * len(b) {
			got := mustLeaf(t, index, sealed(flipped(b, bit)))
			if bytes.Equal(got, text) || !bytes.Equal(got, flipped(text, 40+bit)) {
				t.Fatalf("index %d, bit %d: %x, and before it was %x", index, bit, got, text)
			}
			h, err := node.Leaf(index, sealed(flipped(b, bit)))
			if old, is := hashes[h]; err != nil || is {
				t.Fatalf("index %d, bits %d and %d: the same hash, or %v", index, old, bit, err)
			}
			hashes[h] = bit
		}
	}
}

// TestNodesWithOtherHeight is P8.2: nodes of the same two hashes with unlike heights have unlike texts and unlike hashes.
func TestNodesWithOtherHeight(t *testing.T) {
	rnd := rand.New(rand.NewSource(11))
	one, two := api.Hash(bytesOf(rnd, 32)), api.Hash(bytesOf(rnd, 32))
	for _, p := range [][2]api.Hash{{}, {one, two}, {one, one}} {
		whose, hashes := map[string]int{}, map[api.Hash]int{}
		for height := 1; height <= 32; height++ {
			text := mustJoin(t, height, p[0], p[1])
			h, err := node.Join(height, p[0], p[1])
			if whose[string(text)] != 0 || hashes[h] != 0 || err != nil {
				t.Fatalf("heights %d, %d and %d: the same text or hash, or %v", whose[string(text)], hashes[h], height, err)
			}
			whose[string(text)], hashes[h] = height, height
		}
	}
}

// TestNodesWithOtherHash is P8.2: nodes of one height with one bit of either hash inverted have unlike texts and unlike hashes, and the text differs in that bit alone.
func TestNodesWithOtherHash(t *testing.T) {
	rnd := rand.New(rand.NewSource(12))
	for _, height := range []int{1, 2, 31, 32} {
		b := bytesOf(rnd, 64)
		text := mustJoin(t, height, api.Hash(b[:32]), api.Hash(b[32:]))
		hashes := map[api.Hash]int{}
		for bit := range 8 * len(b) {
			c := flipped(b, bit)
			got := mustJoin(t, height, api.Hash(c[:32]), api.Hash(c[32:]))
			if bytes.Equal(got, text) || !bytes.Equal(got, flipped(text, 16+bit)) {
				t.Fatalf("height %d, bit %d: %x, and before it was %x", height, bit, got, text)
			}
			h, err := node.Join(height, api.Hash(c[:32]), api.Hash(c[32:]))
			if old, is := hashes[h]; err != nil || is {
				t.Fatalf("height %d, bits %d and %d: the same hash, or %v", height, old, bit, err)
			}
			hashes[h] = bit
		}
	}
}

// TestNoTextsAlike is P8.2: of many leaves, nodes and nothing, made of the same bytes wherever they can be, no two have the same text, and each text is of its own kind.
func TestNoTextsAlike(t *testing.T) {
	rnd := rand.New(rand.NewSource(13))
	all := texts{t, map[string]string{}}
	all.add([]byte{0}, "nothing")
	fields := [][]byte{make([]byte, 64), count(0, 64), count(1, 64), bytes.Repeat([]byte{1}, 64), bytes.Repeat([]byte{2}, 64), bytes.Repeat([]byte{255}, 64)}
	for range 20 {
		fields = append(fields, bytesOf(rnd, 64))
	}
	for _, b := range fields {
		for _, index := range []uint64{0, 1, 2, 255, 256, 0x01010101, 0x02020202, 1 << 24, 2 << 24, 1<<32 - 1} {
			all.add(mustLeaf(t, index, sealed(b)), "leaf "+string(leafText(index, sealed(b))))
		}
		for height := 1; height <= 32; height++ {
			all.add(mustJoin(t, height, api.Hash(b[:32]), api.Hash(b[32:])), "node "+string(joinText(height, api.Hash(b[:32]), api.Hash(b[32:]))))
		}
	}
	if want := 1 + len(fields)*(10+32); len(all.seen) != want {
		t.Errorf("%d texts, not %d", len(all.seen), want)
	}
	for text, what := range all.seen {
		want := map[byte]int{'l': leaf, 'n': joined}[what[0]]
		if what == "nothing" {
			want = nothing
		}
		isKind(t, []byte(text), want)
	}
}

// TestTextOfALeafIsNoNode is P8.2: a leaf whose bytes are those of a node's text, as far as they go, is a leaf, and the other way round.
func TestTextOfALeafIsNoNode(t *testing.T) {
	b := mustJoin(t, 2, api.Hash(count(0, 32)), api.Hash(count(32, 32)))
	text := mustLeaf(t, 0x02020202, sealed(b))
	isKind(t, text, leaf)
	text = mustJoin(t, 1, api.Hash(text[:32]), api.Hash(text[29:]))
	isKind(t, text, joined)
	empty, err := node.Empty(0)
	if err != nil {
		t.Fatal(err)
	}
	isKind(t, empty[:], other)
}
