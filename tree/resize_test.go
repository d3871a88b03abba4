package tree_test

import (
	"maps"
	"math"
	"math/rand"
	"slices"
	"testing"

	"entrust/api"
	"entrust/tree"
)

// heightOf is the height as the chapter has it, by trying each.
func heightOf(blocks uint64) int {
	h := 0
	for uint64(1)<<h < blocks {
		h++
	}
	return h
}

// sizes are numbers of blocks at the edges: each power of two, and those beside it.
func sizes() []uint64 {
	out := []uint64{1, 2, 3}
	for h := range 33 {
		out = append(out, 1<<h)
		if h > 1 {
			out = append(out, 1<<h-1)
		}
		if h < 32 {
			out = append(out, 1<<h+1)
		}
	}
	slices.Sort(out)
	return slices.Compact(out)
}

// badSizes are numbers that are none of blocks.
func badSizes() []uint64 {
	return []uint64{0, 1<<32 + 1, 1<<32 + 2, 1<<33 - 1, 1 << 33, 1 << 40, math.MaxInt64, 1 << 63, 1<<63 + 1, math.MaxUint64 - 1, math.MaxUint64}
}

// resized is a tree of that many blocks with those of the leaves that remain.
func resized(t *testing.T, l lived, blocks uint64) lived {
	t.Helper()
	out, err := l.tr.Resize(blocks)
	if err != nil || out == nil || out == l.tr {
		t.Fatalf("%d blocks: %v and %v", blocks, out, err)
	}
	x := maps.Clone(l.x)
	maps.DeleteFunc(x, func(index uint64, _ api.Hash) bool { return index >= blocks })
	return lived{out, heightOf(blocks), x}
}

// TestHeight is P9.1: the least height whose leaves are as many as the blocks.
func TestHeight(t *testing.T) {
	for _, c := range []struct {
		blocks uint64
		want   int
	}{{1, 0}, {2, 1}, {3, 2}, {4, 2}, {5, 3}, {8, 3}, {9, 4}, {1 << 16, 16}, {1<<16 + 1, 17}, {1 << 31, 31}, {1<<31 + 1, 32}, {1<<32 - 1, 32}, {1 << 32, 32}} {
		if h, err := tree.Height(c.blocks); err != nil || h != c.want {
			t.Errorf("%d blocks: %d and %v, not %d", c.blocks, h, err, c.want)
		}
	}
	all := sizes()
	for blocks := range uint64(5000) {
		all = append(all, blocks+1)
	}
	for _, blocks := range all {
		h, err := tree.Height(blocks)
		if err != nil || h != heightOf(blocks) || 1<<h < blocks || h > 0 && 1<<(h-1) >= blocks {
			t.Errorf("%d blocks: %d and %v, not %d", blocks, h, err, heightOf(blocks))
		}
	}
}

// TestNoSuchSize is P9.1: a number that isn't between 1 and 2^32 is ErrRange, with 0 or no tree, and the tree stays as it is.
func TestNoSuchSize(t *testing.T) {
	rnd := rand.New(rand.NewSource(11))
	for _, blocks := range badSizes() {
		if h, err := tree.Height(blocks); err != api.ErrRange || h != 0 {
			t.Errorf("%d blocks: %d and %v", blocks, h, err)
		}
	}
	for _, height := range []int{0, 1, 3, 32} {
		for _, x := range someLeaves(rnd, height) {
			tr := treeOf(t, height, x)
			for _, blocks := range badSizes() {
				if out, err := tr.Resize(blocks); err != api.ErrRange || out != nil {
					t.Errorf("height %d, %d blocks: %v and %v", height, blocks, out, err)
				}
			}
			isTree(t, tr, height, x)
		}
	}
}

// TestResizeToAny is P9.1: each tree of up to 16 leaves, to each number of up to 33 blocks.
func TestResizeToAny(t *testing.T) {
	rnd := rand.New(rand.NewSource(12))
	for height := range 5 {
		for _, x := range someLeaves(rnd, height) {
			l := lived{treeOf(t, height, x), height, x}
			for blocks := range uint64(33) {
				out := resized(t, l, blocks+1)
				isTree(t, out.tr, out.height, out.x)
			}
			isTree(t, l.tr, l.height, l.x)
		}
	}
}

// TestResizeAtTheEdges is P9.1: trees of great heights to each power of two, and to the numbers beside it, with leaves at and beside the edges, of which those remain whose index is less.
func TestResizeAtTheEdges(t *testing.T) {
	x := leaves{}
	for h := range 32 {
		for _, index := range []uint64{1<<h - 1, 1 << h, 1<<h + 1} {
			x[index] = leafOf(index)
		}
	}
	x[1<<32-1] = leafOf(9)
	for _, height := range []int{0, 1, 2, 16, 31, 32} {
		mine := maps.Clone(x)
		maps.DeleteFunc(mine, func(index uint64, _ api.Hash) bool { return index>>height != 0 })
		l := lived{treeOf(t, height, mine), height, mine}
		for _, blocks := range sizes() {
			out := resized(t, l, blocks)
			yields(t, out.tr, out.x)
			if got, want := out.tr.Root(), define(t, out.x).node(out.height, 0); out.tr.Height() != out.height || got != want {
				t.Fatalf("height %d, %d blocks: height %d, root %x, not %d, %x", height, blocks, out.tr.Height(), got, out.height, want)
			}
			if out.height < 4 || blocks%11 == 0 {
				isTree(t, out.tr, out.height, out.x)
			}
		}
		isTree(t, l.tr, l.height, l.x)
	}
}

// TestResizeAndBack is P9.1: what is beyond fewer blocks doesn't come back with more; a tree of as many blocks is the same; and more leaves fit in a tree than it has blocks.
func TestResizeAndBack(t *testing.T) {
	all := make([]uint64, 16)
	for i := range all {
		all[i] = uint64(i)
	}
	for blocks := range uint64(16) {
		l := lived{treeOf(t, 4, leavesOf(all...)), 4, leavesOf(all...)}
		fewer := resized(t, l, blocks+1)
		again := resized(t, fewer, 16)
		isTree(t, again.tr, 4, leavesOf(all[:blocks+1]...))
		same := resized(t, l, 16)
		isTree(t, same.tr, 4, l.x)
	}
	tr, err := mustNew(t, 0).Resize(3)
	if err != nil {
		t.Fatal(err)
	}
	mustSet(t, tr, 3, leafOf(3))
	isTree(t, tr, 2, leavesOf(3))
	if err := tr.Set(4, leafOf(4)); err != api.ErrRange {
		t.Error(err)
	}
	isTree(t, resized(t, lived{tr, 2, leavesOf(3)}, 3).tr, 2, leaves{})
}

// apart fails if two trees that were made of one another see each other's changes.
func apart(t *testing.T, rnd *rand.Rand, one, two lived) {
	t.Helper()
	for _, pair := range [][2]lived{{one, two}, {two, one}, {one, two}, {two, one}} {
		l, other := pair[0], pair[1]
		index := rnd.Uint64() & (1<<l.height - 1)
		l.x[index] = randomHash(rnd)
		mustSet(t, l.tr, index, l.x[index])
		isTree(t, other.tr, other.height, other.x)
		index = slices.Min(slices.Collect(maps.Keys(l.x)))
		delete(l.x, index)
		mustDrop(t, l.tr, index)
		isTree(t, other.tr, other.height, other.x)
	}
	isTree(t, two.tr, two.height, two.x)
}

// TestCopy is P9.1: a copy has the same leaves, and no later change of one is seen in the other, nor in the copy of a copy.
func TestCopy(t *testing.T) {
	rnd := rand.New(rand.NewSource(13))
	for _, height := range []int{0, 1, 2, 5, 31, 32} {
		for _, x := range someLeaves(rnd, height) {
			l := lived{treeOf(t, height, x), height, maps.Clone(x)}
			c := lived{l.tr.Copy(), height, maps.Clone(x)}
			if c.tr == nil || c.tr == l.tr {
				t.Fatal(c.tr)
			}
			isTree(t, c.tr, height, x)
			again := lived{c.tr.Copy(), height, maps.Clone(x)}
			apart(t, rnd, l, c)
			isTree(t, again.tr, height, x)
			apart(t, rnd, again, c)
		}
	}
}

// TestResizedApart is P9.1: no later change of a tree is seen in the one that was made of it, nor the other way round, for fewer, as many and more blocks.
func TestResizedApart(t *testing.T) {
	rnd := rand.New(rand.NewSource(14))
	for _, height := range []int{0, 1, 3, 32} {
		for _, x := range someLeaves(rnd, height) {
			for _, blocks := range []uint64{1, 1<<height/2 + 1, 1 << height, 1 << min(height+1, 32)} {
				l := lived{treeOf(t, height, x), height, maps.Clone(x)}
				apart(t, rnd, l, resized(t, l, blocks))
			}
		}
	}
}
