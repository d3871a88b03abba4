package step_test

import (
	"encoding/hex"
	"math"
	"math/rand"
	"testing"

	"entrust/api"
	"entrust/node"
	"entrust/step"
	"entrust/tree"
)

// empties is the empty hashes, each joined of two below it, as chapter 8 defines them.
var empties = func() (all [33]api.Hash) {
	all[0], _ = node.Empty(0)
	for k := 1; k <= 32; k++ {
		all[k], _ = node.Join(k, all[k-1], all[k-1])
	}
	return all
}()

// spot is where a node is.
type spot struct {
	level int
	place uint64
}

// join is the hash of a node above two others.
func join(t *testing.T, height int, left, right api.Hash) api.Hash {
	t.Helper()
	h, err := node.Join(height, left, right)
	if err != nil {
		t.Fatal(height, err)
	}
	return h
}

// heightFor is the least height of a tree with that many leaves, found by trying each.
func heightFor(blocks uint64) int {
	h := 0
	for uint64(1)<<h < blocks {
		h++
	}
	return h
}

func randomHash(rnd *rand.Rand) api.Hash {
	var h api.Hash
	rnd.Read(h[:])
	return h
}

func randomHashes(rnd *rand.Rand, n int) []api.Hash {
	all := make([]api.Hash, n)
	for i := range all {
		all[i] = randomHash(rnd)
	}
	return all
}

// turned is a hash with one bit turned.
func turned(h api.Hash, bit int) api.Hash {
	h[bit/8%len(h)] ^= 1 << (bit % 8)
	return h
}

// hash is the hash that is written in hexadecimal digits.
func hash(t *testing.T, s string) api.Hash {
	t.Helper()
	b, err := hex.DecodeString(s)
	if err != nil || len(b) != len(api.Hash{}) {
		t.Fatal(s, err)
	}
	return api.Hash(b)
}

// known is the leaf at an index in the tests with known hashes.
func known(index uint64) api.Hash {
	var h api.Hash
	for i := range h {
		h[i] = byte(index + 1)
	}
	return h
}

// mustSet sets a tree's leaf.
func mustSet(t *testing.T, tr *tree.Tree, index uint64, leaf api.Hash) {
	t.Helper()
	if err := tr.Set(index, leaf); err != nil {
		t.Fatal(err)
	}
}

// mustTree is a tree in which the leaves at some indices are present.
func mustTree(t *testing.T, rnd *rand.Rand, height int, indices ...uint64) *tree.Tree {
	t.Helper()
	tr, err := tree.New(height)
	if err != nil {
		t.Fatal(err)
	}
	for _, index := range indices {
		mustSet(t, tr, index, randomHash(rnd))
	}
	return tr
}

// knownTree is a tree of the known leaves at some indices.
func knownTree(t *testing.T, height int, indices ...uint64) *tree.Tree {
	t.Helper()
	tr, err := tree.New(height)
	if err != nil {
		t.Fatal(err)
	}
	for _, index := range indices {
		mustSet(t, tr, index, known(index))
	}
	return tr
}

// mustResize is a tree that was made for another number of blocks.
func mustResize(t *testing.T, tr *tree.Tree, blocks uint64) *tree.Tree {
	t.Helper()
	out, err := tr.Resize(blocks)
	if err != nil {
		t.Fatal(blocks, err)
	}
	return out
}

// mustNode is a tree's node.
func mustNode(t *testing.T, tr *tree.Tree, s spot) api.Hash {
	t.Helper()
	h, err := tr.Node(s.level, s.place)
	if err != nil {
		t.Fatal(s, err)
	}
	return h
}

// heights is those of the trees in most tests.
func heights() []int {
	return []int{0, 1, 2, 3, 4, 8, 9, 31, 32}
}

// noHeights is numbers that are no tree's height.
func noHeights() []int {
	return []int{33, 34, 63, 64, 65, 255, 256, 1 << 31, 1 << 32, 1<<32 + 1, math.MaxInt - 1, math.MaxInt, -1, -2, -32, -64, -1 << 32, math.MinInt + 1, math.MinInt}
}

// numbers is numbers of blocks: low ones, the powers of two, and those just below and just above them.
func numbers() []uint64 {
	return []uint64{1, 2, 3, 4, 5, 6, 7, 8, 9, 15, 16, 17, 255, 256, 257, 1<<16 - 1, 1 << 16, 1<<16 + 1, 1<<31 - 1, 1 << 31, 1<<31 + 1, 1<<32 - 2, 1<<32 - 1, 1 << 32}
}

// noNumbers is numbers that no volume has as its blocks.
func noNumbers() []uint64 {
	return []uint64{0, 1<<32 + 1, 1<<32 + 2, 1 << 33, 1<<63 - 1, 1 << 63, 1<<63 + 1, math.MaxUint64 - 1<<32, math.MaxUint64 - 1, math.MaxUint64}
}

// within is indices less than a number of blocks: the first and the last ones, those around the powers of two that are known, and random ones.
func within(rnd *rand.Rand, blocks uint64) []uint64 {
	var out []uint64
	for _, n := range numbers() {
		if n <= blocks && n+3 > blocks || n <= blocks && rnd.Intn(3) == 0 {
			out = append(out, n-1)
		}
	}
	return append(out, 0, blocks-1, blocks/2, uint64(rnd.Int63n(int64(blocks))), uint64(rnd.Int63n(int64(blocks))))
}

// volumes is trees of a number of blocks: one without leaves, one with few, the last one among them, one with some, the last one not among them, and, if there are few, one with all leaves.
func volumes(t *testing.T, rnd *rand.Rand, blocks uint64) []*tree.Tree {
	t.Helper()
	h := heightFor(blocks)
	some := mustTree(t, rnd, h, within(rnd, blocks)...)
	if err := some.Drop(blocks - 1); err != nil {
		t.Fatal(err)
	}
	out := []*tree.Tree{mustTree(t, rnd, h), mustTree(t, rnd, h, within(rnd, blocks)...), some}
	if blocks <= 32 {
		out = append(out, mustTree(t, rnd, h, below(blocks)...))
	}
	return out
}

// below is all numbers less than one.
func below(n uint64) []uint64 {
	out := make([]uint64, n)
	for i := range out {
		out[i] = uint64(i)
	}
	return out
}

// define is the root that a leaf and its path yield as chapters 9 and 12 define it: the nodes of each level stand at their places, the one above the index and its sibling, and are joined from left to right.
func define(t *testing.T, leaf api.Hash, index uint64, path []api.Hash) api.Hash {
	t.Helper()
	at := map[spot]api.Hash{{0, index}: leaf}
	for level, sibling := range path {
		place := index >> level
		at[spot{level, place ^ 1}] = sibling
		left, is1 := at[spot{level, place / 2 * 2}]
		right, is2 := at[spot{level, place/2*2 + 1}]
		if !is1 || !is2 {
			t.Fatal(level, place)
		}
		at[spot{level + 1, place / 2}] = join(t, level+1, left, right)
	}
	return at[spot{len(path), index >> len(path)}]
}

// mustClimb is the root that a leaf and a path yield.
func mustClimb(t *testing.T, leaf api.Hash, index uint64, path []api.Hash) api.Hash {
	t.Helper()
	root, err := step.Climb(leaf, index, path)
	if err != nil {
		t.Fatalf("index %d, %d hashes: %v", index, len(path), err)
	}
	return root
}

// indicesOf is indices of a height: the first and the last ones, those in the middle, and random ones.
func indicesOf(rnd *rand.Rand, height int) []uint64 {
	last := uint64(1)<<height - 1
	return []uint64{0, 1 & last, last / 2, last/2 + 1&last, last - 1&last, last, rnd.Uint64() & last, rnd.Uint64() & last}
}

// TestClimb is P12.1: the root that a leaf and a path yield, for paths of 0 to 32 hashes, and each index of the short ones.
func TestClimb(t *testing.T) {
	rnd := rand.New(rand.NewSource(1))
	for n := range 33 {
		indices := indicesOf(rnd, n)
		if n < 6 {
			indices = below(1 << n)
		}
		for _, index := range indices {
			leaf, path := randomHash(rnd), randomHashes(rnd, n)
			if got, want := mustClimb(t, leaf, index, path), define(t, leaf, index, path); got != want {
				t.Errorf("index %d, %d hashes: %x, not %x", index, n, got, want)
			}
		}
	}
}

// TestClimbKnown is P12.1: roots that Python's hashlib made, of the known leaf at 0 and a path of the ones behind it.
func TestClimbKnown(t *testing.T) {
	for _, c := range []struct {
		n     int
		index uint64
		want  string
	}{
		{0, 0, "0101010101010101010101010101010101010101010101010101010101010101"},
		{1, 0, "22a3049ba4417ea398271a5a40edc561eb7d2a7aa93c49c704310a84593aef51"},
		{1, 1, "9137671e4b464c4db5ba311cd53d0e65a099b36df290ba1c9bb170d0c3a36220"},
		{2, 0, "1018caf52720953461cb03a6a2c2a161867f28385b9db9bd80b7aaff227e71af"},
		{2, 1, "d8f0a6118564523072c508a820351e567b8875ef71d4df719ad1c0b37ae1261c"},
		{2, 2, "60b988a67406f39c0a419d122a40a26601244a8853adf0196e7b95cec6452009"},
		{2, 3, "643c2d8b1e4179237b125a04553bf26aa9f7382ce152c80579465ac3114e4b30"},
		{5, 22, "1f98a583732eff9851f7d6a8c72a240dba8abd5e424c89de5adb08c920a1537b"},
		{31, 0, "9023c91dbf000f16eb00d621cec1d2b32316ba70f1727cbd63f442e8b6e1b7e1"},
		{31, 2147483647, "792a99ddf2a0287fcf751d2a694eacec69c154873645d269d6c15d811e7c7373"},
		{31, 715827882, "08cd33e5c6423da9013f176ab2a1a3829e9bf4c0380f29656cdb9ee390a3dead"},
		{32, 0, "180d2962c46b5a90a1568560baa49258ce3bc3045d3773ec5014930d0c1faf9f"},
		{32, 4294967295, "5764742a2800129429b615cbd5cb0e8dd05d47df0fab27f7d40a0461e381bdc3"},
		{32, 305419896, "cc0e57818ff7d4beeb0dc6f4b014d9ce471832e588e3cf9cbd788b13db873f78"},
	} {
		var path []api.Hash
		for k := range c.n {
			path = append(path, known(uint64(k+1)))
		}
		if got := mustClimb(t, known(0), c.index, path); got != hash(t, c.want) {
			t.Errorf("index %d, %d hashes: %x", c.index, c.n, got)
		}
	}
}

// TestClimbOfTrees is P12.1: a tree's leaf, present or not, and its path yield the tree's root.
func TestClimbOfTrees(t *testing.T) {
	rnd := rand.New(rand.NewSource(2))
	for _, blocks := range numbers() {
		for _, tr := range volumes(t, rnd, blocks) {
			for _, index := range within(rnd, blocks) {
				path, err := tr.Path(index)
				if err != nil {
					t.Fatal(err)
				}
				if got := mustClimb(t, mustNode(t, tr, spot{0, index}), index, path); got != tr.Root() {
					t.Errorf("%d blocks, index %d: %x, not the root %x", blocks, index, got, tr.Root())
				}
			}
		}
	}
}

// TestClimbOfAnotherLeaf is P12.1: a leaf, a path or an index with one bit turned yields another root.
func TestClimbOfAnotherLeaf(t *testing.T) {
	rnd := rand.New(rand.NewSource(3))
	for _, n := range heights() {
		for _, index := range indicesOf(rnd, n) {
			leaf, path := randomHash(rnd), randomHashes(rnd, n)
			root := mustClimb(t, leaf, index, path)
			if mustClimb(t, turned(leaf, rnd.Intn(256)), index, path) == root {
				t.Fatal("another leaf")
			}
			for level := range path {
				was := path[level]
				path[level] = turned(was, rnd.Intn(256))
				if mustClimb(t, leaf, index, path) == root {
					t.Fatal("another path", level)
				}
				path[level] = was
				if mustClimb(t, leaf, index^1<<level, path) == root {
					t.Fatal("another index", level)
				}
			}
		}
	}
}

// TestClimbRange is P12.1: ErrRange and zeros for an index that isn't less than 2 to the power of the path's number of hashes, and a root for the last one that is.
func TestClimbRange(t *testing.T) {
	rnd := rand.New(rand.NewSource(4))
	for n := range 33 {
		leaf, path := randomHash(rnd), randomHashes(rnd, n)
		count := uint64(1) << n
		for _, index := range []uint64{count, count + 1, 2*count - 1, 2 * count, 1 << 32, 1<<32 + count - 1, 1 << 63, 1<<63 + count - 1, -count, math.MaxUint64 - 1, math.MaxUint64} {
			if got, err := step.Climb(leaf, index, path); got != (api.Hash{}) || err != api.ErrRange {
				t.Errorf("index %d, %d hashes: %x and %v", index, n, got, err)
			}
		}
		if got := mustClimb(t, leaf, count-1, path); got != define(t, leaf, count-1, path) {
			t.Errorf("%d hashes: %x", n, got)
		}
	}
}

// TestClimbTooFar is P12.1: ErrRange and zeros for a path of more than 32 hashes, whatever the index is.
func TestClimbTooFar(t *testing.T) {
	rnd := rand.New(rand.NewSource(5))
	for _, n := range []int{33, 34, 63, 64, 65, 96, 255, 256, 257, 1024} {
		path := randomHashes(rnd, n)
		for _, index := range []uint64{0, 1, 1<<32 - 1, 1 << 32, 1<<33 - 1, 1 << 33, math.MaxUint64} {
			if got, err := step.Climb(randomHash(rnd), index, path); got != (api.Hash{}) || err != api.ErrRange {
				t.Errorf("index %d, %d hashes: %x and %v", index, n, got, err)
			}
		}
	}
}

// TestClimbWithoutAPath is P12.1: the leaf is the root where there is no path, be it nil or empty.
func TestClimbWithoutAPath(t *testing.T) {
	for _, leaf := range []api.Hash{{}, known(3), empties[0]} {
		if mustClimb(t, leaf, 0, nil) != leaf || mustClimb(t, leaf, 0, []api.Hash{}) != leaf {
			t.Errorf("%x", leaf)
		}
	}
}
