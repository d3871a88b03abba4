package span_test

import (
	"encoding/hex"
	"math"
	"math/big"
	"math/rand"
	"slices"
	"testing"

	"entrust/api"
	"entrust/node"
	"entrust/proof"
	"entrust/span"
	"entrust/tree"
)

// part is consecutive numbers from a first one on.
type part struct {
	first uint64
	many  int
}

// indices is the numbers, if there are any.
func (p part) indices() []uint64 {
	var out []uint64
	for i := range max(p.many, 0) {
		out = append(out, p.first+uint64(i))
	}
	return out
}

// isSpan is whether the numbers are a span of a tree of some height, worked out with numbers that have no bounds.
func (p part) isSpan(height int) bool {
	if height < 0 || height > 32 || p.many < 1 || p.many > 256 {
		return false
	}
	end := new(big.Int).SetUint64(p.first)
	end.Add(end, big.NewInt(int64(p.many)))
	return end.Cmp(new(big.Int).Lsh(big.NewInt(1), uint(height))) <= 0
}

// spot is where a node is.
type spot struct {
	level int
	place uint64
}

// beside is the nodes that the chapter's definition reaches, level by level: the places of each level that have leaves of the span below them are found index by index.
func beside(height int, p part) (left, right []spot) {
	for level := range height {
		var places []uint64
		for _, index := range p.indices() {
			places = append(places, index>>level)
		}
		a, b := slices.Min(places), slices.Max(places)
		if a&1 == 1 {
			left = append(left, spot{level, a - 1})
		}
		if b&1 == 0 {
			right = append(right, spot{level, b + 1})
		}
	}
	return left, right
}

// define is the root that leaves and lists yield as the chapter defines it: the nodes of each level are kept by their places, and joined by layer 8 with those beside them.
func define(t *testing.T, height int, p part, leaves []api.Hash, lists span.Proof) api.Hash {
	t.Helper()
	nodes := map[uint64]api.Hash{}
	for i, index := range p.indices() {
		nodes[index] = leaves[i]
	}
	left, right := beside(height, p)
	if len(left) != len(lists.Left) || len(right) != len(lists.Right) {
		t.Fatalf("height %d, %d: %d and %d hashes, not %d and %d", height, p, len(lists.Left), len(lists.Right), len(left), len(right))
	}
	for level := range height {
		for i, s := range left {
			if s.level == level {
				nodes[s.place] = lists.Left[i]
			}
		}
		for i, s := range right {
			if s.level == level {
				nodes[s.place] = lists.Right[i]
			}
		}
		above := map[uint64]api.Hash{}
		for place := range nodes {
			l, is1 := nodes[place&^1]
			r, is2 := nodes[place|1]
			h, err := node.Join(level+1, l, r)
			if !is1 || !is2 || err != nil {
				t.Fatal(height, p, level, place, is1, is2, err)
			}
			above[place/2] = h
		}
		nodes = above
	}
	if len(nodes) != 1 {
		t.Fatalf("height %d, %d: %d nodes at the top", height, p, len(nodes))
	}
	return nodes[0]
}

// inOrder is both lists as the proof of layer 10 has their hashes: from left to right, so the left list from its end on, and then the right one.
func inOrder(lists span.Proof) []api.Hash {
	left := slices.Clone(lists.Left)
	slices.Reverse(left)
	return append(left, lists.Right...)
}

func randomHash(rnd *rand.Rand) api.Hash {
	var h api.Hash
	rnd.Read(h[:])
	return h
}

func randomHashes(rnd *rand.Rand, n int) []api.Hash {
	all := make([]api.Hash, n)
	for i := range all {
		all[i] = randomHash(rnd)
	}
	return all
}

// hash is the hash that is written in hexadecimal digits.
func hash(t *testing.T, s string) api.Hash {
	t.Helper()
	b, err := hex.DecodeString(s)
	if err != nil || len(b) != len(api.Hash{}) {
		t.Fatal(s, err)
	}
	return api.Hash(b)
}

// known is the leaf at an index in the tests with known hashes.
func known(index uint64) api.Hash {
	var h api.Hash
	for i := range h {
		h[i] = byte(index + 1)
	}
	return h
}

// mustSet sets a tree's leaf.
func mustSet(t *testing.T, tr *tree.Tree, index uint64, leaf api.Hash) {
	t.Helper()
	if err := tr.Set(index, leaf); err != nil {
		t.Fatal(err)
	}
}

// mustTree is a tree in which the leaves at some indices are present.
func mustTree(t *testing.T, rnd *rand.Rand, height int, indices ...uint64) *tree.Tree {
	t.Helper()
	tr, err := tree.New(height)
	if err != nil {
		t.Fatal(err)
	}
	for _, index := range indices {
		mustSet(t, tr, index, randomHash(rnd))
	}
	return tr
}

// mustNode is a tree's node.
func mustNode(t *testing.T, tr *tree.Tree, s spot) api.Hash {
	t.Helper()
	h, err := tr.Node(s.level, s.place)
	if err != nil {
		t.Fatal(err)
	}
	return h
}

// mustLeaves is a tree's leaves, taken from it one by one.
func mustLeaves(t *testing.T, tr *tree.Tree, p part) []api.Hash {
	t.Helper()
	var out []api.Hash
	for _, index := range p.indices() {
		out = append(out, mustNode(t, tr, spot{0, index}))
	}
	return out
}

// mustMake is a span's proof.
func mustMake(t *testing.T, tr *tree.Tree, p part) span.Proof {
	t.Helper()
	lists, err := span.Make(tr, p.first, p.many)
	if err != nil {
		t.Fatalf("height %d, %d: %v", tr.Height(), p, err)
	}
	return lists
}

// mustRoot is the root that leaves and a proof yield.
func mustRoot(t *testing.T, height int, first uint64, leaves []api.Hash, lists span.Proof) api.Hash {
	t.Helper()
	root, err := span.Root(height, first, leaves, lists)
	if err != nil {
		t.Fatalf("height %d, %d leaves from %d on: %v", height, len(leaves), first, err)
	}
	return root
}

// heights is those of the trees in most tests.
func heights() []int {
	return []int{0, 1, 2, 3, 4, 8, 9, 31, 32}
}

// noHeights is numbers that are no tree's height.
func noHeights() []int {
	return []int{33, 34, 63, 64, 65, 255, 256, 1 << 31, 1 << 32, 1<<32 + 1, math.MaxInt - 1, math.MaxInt, -1, -2, -32, -64, -1 << 32, math.MinInt + 1, math.MinInt}
}

// someSpans is spans of a height: those of one index, of two and three, and of as many as there may be and of some less, at the first indices, in the middle, at the last ones, and at a random one. Of the long ones there are fewer, for the sake of time.
func someSpans(rnd *rand.Rand, height int) []part {
	count := uint64(1) << height
	most := min(count, api.MaxBatch)
	var out []part
	for _, many := range []uint64{1, 2, 3, most/2 + 1, most - 1, most} {
		if many < 1 || many > most {
			continue
		}
		starts := count - many
		firsts := []uint64{0, 1, starts / 2, starts, starts - min(starts, 1), uint64(rnd.Int63n(int64(starts) + 1))}
		if many > 100 {
			firsts = firsts[:4]
		}
		for _, first := range firsts {
			if p := (part{first, int(many)}); first <= starts && !slices.Contains(out, p) {
				out = append(out, p)
			}
		}
	}
	return out
}

// allSpans is every span of a low tree's height.
func allSpans(height int) []part {
	var out []part
	for first := range uint64(1) << height {
		for many := 1; first+uint64(many) <= 1<<height; many++ {
			out = append(out, part{first, many})
		}
	}
	return out
}

// noSpans is what isn't a span of a height: of no index or of more than 256, at an index behind the last one, longer than what is left, and such whose end doesn't fit into 64 bits.
func noSpans(height int) []part {
	count := uint64(1) << height
	last := count - 1
	var out []part
	for _, first := range []uint64{0, 1, last, count, count + 1, 1 << 31, 1 << 32, 1 << 63, math.MaxUint64 - 256, math.MaxUint64 - 255, math.MaxUint64 - 254, math.MaxUint64 - 1, math.MaxUint64, -count, -count + 1, count - 256, count - 255, count - 257} {
		for _, many := range []int{0, 1, 2, 3, 128, 255, 256, 257, 258, 512, 65536, 1 << 31, 1 << 32, 1<<32 + 1, math.MaxInt - 1, math.MaxInt, -1, -2, -255, -256, -257, -1 << 32, math.MinInt + 1, math.MinInt} {
			if p := (part{first, many}); !p.isSpan(height) {
				out = append(out, p)
			}
		}
	}
	return out
}

// someTrees is trees of a height: one without leaves, one with those of a span, one with every other one of them and with some beside, and, if it is low, one with all leaves.
func someTrees(t *testing.T, rnd *rand.Rand, height int, p part) []*tree.Tree {
	t.Helper()
	last := uint64(1)<<height - 1
	around := []uint64{0, last, (p.first - 1) & last, (p.first + uint64(p.many)) & last, rnd.Uint64() & last}
	for i, index := range p.indices() {
		if i%2 == 0 {
			around = append(around, index)
		}
	}
	trees := []*tree.Tree{mustTree(t, rnd, height), mustTree(t, rnd, height, p.indices()...), mustTree(t, rnd, height, around...)}
	if height < 7 {
		trees = append(trees, mustTree(t, rnd, height, part{0, 1 << height}.indices()...))
	}
	return trees
}

// TestRight is P11.1: 1 to 256 consecutive indices of a height are a span of it.
func TestRight(t *testing.T) {
	rnd := rand.New(rand.NewSource(1))
	for height := range 33 {
		for _, p := range someSpans(rnd, height) {
			if !span.Right(height, p.first, p.many) {
				t.Errorf("height %d, %d", height, p)
			}
		}
	}
	for _, c := range []struct {
		height int
		first  uint64
		many   int
	}{{0, 0, 1}, {1, 0, 1}, {1, 1, 1}, {1, 0, 2}, {8, 0, 256}, {9, 256, 256}, {31, 1<<31 - 1, 1}, {31, 1<<31 - 256, 256}, {32, 1<<32 - 1, 1}, {32, 1<<32 - 2, 2}, {32, 1<<32 - 256, 256}, {32, 1 << 31, 256}} {
		if !span.Right(c.height, c.first, c.many) {
			t.Error(c)
		}
	}
}

// TestNotRight is P11.1: nothing else is: other heights, no indices or more than 256, indices that the height doesn't have, be it one alone, and such as would end behind what 64 bits can hold.
func TestNotRight(t *testing.T) {
	rnd := rand.New(rand.NewSource(2))
	for height := range 33 {
		for _, p := range noSpans(height) {
			if span.Right(height, p.first, p.many) {
				t.Errorf("height %d, %d", height, p)
			}
		}
	}
	for _, height := range noHeights() {
		for _, p := range append(someSpans(rnd, 8), part{0, 0}, part{0, 257}, part{1 << 32, 1}, part{math.MaxUint64, 2}) {
			if span.Right(height, p.first, p.many) {
				t.Errorf("height %d, %d", height, p)
			}
		}
	}
	for _, c := range []struct {
		height int
		first  uint64
		many   int
	}{{0, 0, 2}, {0, 1, 1}, {1, 1, 2}, {1, 2, 1}, {8, 0, 257}, {8, 1, 256}, {31, 1 << 31, 1}, {31, 1<<31 - 1, 2}, {31, 1<<31 - 255, 256}, {32, 1 << 32, 1}, {32, 1<<32 - 1, 2}, {32, 1<<32 - 255, 256}, {32, math.MaxUint64, 1}, {32, math.MaxUint64, 2}, {32, math.MaxUint64, 256}, {32, math.MaxUint64 - 255, 256}} {
		if span.Right(c.height, c.first, c.many) {
			t.Error(c)
		}
	}
}

// TestRightOfLowTrees is P11.1: Right of each first index and each number of indices around those that low trees have.
func TestRightOfLowTrees(t *testing.T) {
	for height := range 6 {
		spans := 0
		for first := range uint64(1)<<height + 3 {
			for many := -2; many <= 1<<height+2; many++ {
				want := part{first, many}.isSpan(height)
				if got := span.Right(height, first, many); got != want {
					t.Errorf("height %d, %d from %d on: %v", height, many, first, got)
				}
				if want {
					spans++
				}
			}
		}
		if count := 1 << height; spans != count*(count+1)/2 || spans != len(allSpans(height)) {
			t.Errorf("height %d: %d spans", height, spans)
		}
	}
}

// TestRightIsAList is P11.1: a span's indices are a list of indices of layer 10 for the same height.
func TestRightIsAList(t *testing.T) {
	rnd := rand.New(rand.NewSource(3))
	for height := range 33 {
		for _, p := range append(someSpans(rnd, height), noSpans(height)...) {
			if p.many > 1000 {
				continue
			}
			if got, want := span.Right(height, p.first, p.many), proof.Right(height, p.indices()); got != want {
				t.Errorf("height %d, %d: %v, and layer 10 says %v", height, p, got, want)
			}
		}
	}
}

// TestIndices is P11.1: Indices returns the consecutive indices, in order, whatever the height is for which they are a span.
func TestIndices(t *testing.T) {
	rnd := rand.New(rand.NewSource(4))
	for height := range 33 {
		for _, p := range someSpans(rnd, height) {
			if got := span.Indices(p.first, p.many); !slices.Equal(got, p.indices()) {
				t.Errorf("%d: %d", p, got)
			}
		}
	}
	for _, c := range []struct {
		first uint64
		many  int
		want  []uint64
	}{
		{0, 1, []uint64{0}},
		{7, 3, []uint64{7, 8, 9}},
		{1<<31 - 1, 2, []uint64{1<<31 - 1, 1 << 31}},
		{1<<32 - 1, 1, []uint64{1<<32 - 1}},
		{1<<32 - 3, 3, []uint64{1<<32 - 3, 1<<32 - 2, 1<<32 - 1}},
	} {
		if got := span.Indices(c.first, c.many); !slices.Equal(got, c.want) {
			t.Errorf("%d from %d on: %d", c.many, c.first, got)
		}
	}
	if got := span.Indices(1<<32-256, 256); len(got) != 256 || got[0] != 1<<32-256 || got[255] != 1<<32-1 {
		t.Errorf("%d", got)
	}
}

// TestNoIndices is P11.1: Indices returns none if there aren't 1 to 256, or one is above 2^32 - 1, be it the last one alone.
func TestNoIndices(t *testing.T) {
	parts := append(noSpans(32), part{0, 0}, part{0, 257}, part{5, -1}, part{5, math.MinInt}, part{0, math.MaxInt}, part{1 << 32, 1}, part{1<<32 - 1, 2}, part{1<<32 - 255, 256}, part{math.MaxUint64, 1}, part{math.MaxUint64, 2}, part{math.MaxUint64 - 3, 4}, part{math.MaxUint64 - 3, 5})
	for _, p := range parts {
		if got := span.Indices(p.first, p.many); len(got) != 0 {
			t.Errorf("%d: %d", p, got)
		}
	}
}

// TestCounts is P11.1: Counts is the number of nodes that the definition reaches on each side, for every span of low trees, and for some of each height.
func TestCounts(t *testing.T) {
	rnd := rand.New(rand.NewSource(5))
	for height := range 33 {
		spans := someSpans(rnd, height)
		if height < 6 {
			spans = allSpans(height)
		}
		for _, p := range spans {
			left, right := beside(height, p)
			if l, r, err := span.Counts(height, p.first, p.many); l != len(left) || r != len(right) || err != nil {
				t.Fatalf("height %d, %d: %d and %d (%v), not %d and %d", height, p, l, r, err, len(left), len(right))
			}
		}
	}
}

// TestCountsKnown is P11.1: numbers of hashes written out by hand.
func TestCountsKnown(t *testing.T) {
	for _, c := range []struct {
		height      int
		first       uint64
		many        int
		left, right int
	}{
		{0, 0, 1, 0, 0}, {1, 0, 1, 0, 1}, {1, 1, 1, 1, 0}, {1, 0, 2, 0, 0},
		{2, 2, 2, 1, 0}, {2, 0, 2, 0, 1}, {2, 1, 2, 1, 1}, {2, 0, 4, 0, 0}, {2, 0, 3, 0, 1}, {2, 1, 3, 1, 0}, {2, 1, 1, 1, 1},
		{3, 3, 2, 2, 2}, {3, 5, 3, 2, 0}, {8, 0, 256, 0, 0}, {9, 0, 256, 0, 1}, {9, 256, 256, 1, 0}, {9, 128, 256, 1, 1}, {9, 1, 255, 1, 1}, {9, 1, 256, 1, 8},
		{31, 0, 1, 0, 31}, {31, 1<<31 - 1, 1, 31, 0}, {31, 1<<30 - 1, 2, 30, 30}, {31, 1 << 30, 256, 1, 22},
		{32, 0, 1, 0, 32}, {32, 1<<32 - 1, 1, 32, 0}, {32, 1<<31 - 1, 2, 31, 31}, {32, 0, 256, 0, 24}, {32, 1<<32 - 256, 256, 24, 0}, {32, 1<<31 - 100, 256, 27, 26},
	} {
		if l, r, err := span.Counts(c.height, c.first, c.many); l != c.left || r != c.right || err != nil {
			t.Errorf("height %d, %d from %d on: %d and %d (%v), not %d and %d", c.height, c.many, c.first, l, r, err, c.left, c.right)
		}
	}
}

// TestCountsOfLayer10 is P11.2: both lists together have as many hashes as the proof of layer 10 for the same indices.
func TestCountsOfLayer10(t *testing.T) {
	rnd := rand.New(rand.NewSource(6))
	for height := range 33 {
		spans := someSpans(rnd, height)
		if height < 6 {
			spans = allSpans(height)
		}
		for _, p := range spans {
			want, err1 := proof.Count(height, span.Indices(p.first, p.many))
			left, right, err2 := span.Counts(height, p.first, p.many)
			if err1 != nil || err2 != nil || left+right != want {
				t.Fatalf("height %d, %d: %d and %d (%v), and layer 10 has %d (%v)", height, p, left, right, err2, want, err1)
			}
		}
	}
}
