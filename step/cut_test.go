package step_test

import (
	"math"
	"math/rand"
	"slices"
	"testing"

	"entrust/api"
	"entrust/step"
	"entrust/tree"
)

// mustCut is a tree's cutting step.
func mustCut(t *testing.T, tr *tree.Tree, blocks uint64) step.Cut {
	t.Helper()
	c, err := step.MakeCut(tr, blocks)
	if err != nil {
		t.Fatalf("height %d to %d blocks: %v", tr.Height(), blocks, err)
	}
	return c
}

// mustEnd is the root behind a cutting step.
func mustEnd(t *testing.T, c step.Cut, root api.Hash, was, blocks uint64) api.Hash {
	t.Helper()
	got, err := c.After(root, was, blocks)
	if err != nil {
		t.Fatalf("%d blocks to %d: %v", was, blocks, err)
	}
	return got
}

// noEnd fails if there is a root behind a cutting step, or the error is another one.
func noEnd(t *testing.T, want error, c step.Cut, root api.Hash, was, blocks uint64) {
	t.Helper()
	if got, err := c.After(root, was, blocks); got != (api.Hash{}) || err != want {
		t.Fatalf("%d blocks to %d, %d hashes: %x and %v, not %v", was, blocks, len(c.Path), got, err, want)
	}
}

// TestMakeCut is P12.1: a cutting step has the leaf of the last index that remains, and the sibling of the node above it on each level.
func TestMakeCut(t *testing.T) {
	rnd := rand.New(rand.NewSource(21))
	for _, was := range numbers() {
		for _, tr := range volumes(t, rnd, was) {
			for _, last := range append(within(rnd, was), 1<<tr.Height()-1) {
				c := mustCut(t, tr, last+1)
				if want := mustNode(t, tr, spot{0, last}); c.Leaf != want || len(c.Path) != tr.Height() {
					t.Fatalf("%d blocks to %d: %x and %d hashes, not %x", was, last+1, c.Leaf, len(c.Path), want)
				}
				for level, h := range c.Path {
					if want := mustNode(t, tr, spot{level, last>>level ^ 1}); h != want {
						t.Errorf("%d blocks to %d: %x on level %d, not %x", was, last+1, h, level, want)
					}
				}
			}
		}
	}
}

// TestMakeCutKnown is P12.1: the leaf and the path of a cut of 8 known blocks to 5, written out by hand.
func TestMakeCutKnown(t *testing.T) {
	tr := knownTree(t, 3, below(8)...)
	path := []api.Hash{known(5), join(t, 1, known(6), known(7)), join(t, 2, join(t, 1, known(0), known(1)), join(t, 1, known(2), known(3)))}
	if c := mustCut(t, tr, 5); c.Leaf != known(4) || !slices.Equal(c.Path, path) {
		t.Errorf("%x", c)
	}
	if c := mustCut(t, knownTree(t, 0, 0), 1); c.Leaf != known(0) || len(c.Path) != 0 {
		t.Errorf("%x", c)
	}
}

// TestMakeCutRange is P12.1: ErrRange and nothing beside it if blocks is 0, or blocks - 1 isn't an index of the tree.
func TestMakeCutRange(t *testing.T) {
	rnd := rand.New(rand.NewSource(22))
	for height := range 33 {
		count := uint64(1) << height
		for _, tr := range []*tree.Tree{mustTree(t, rnd, height), mustTree(t, rnd, height, 0, count-1)} {
			for _, blocks := range []uint64{0, count + 1, count + 2, 2*count + 1, 1<<32 + 1, 1 << 33, 1 << 63, 1<<63 + 1, -count, math.MaxUint64 - 1, math.MaxUint64} {
				if c, err := step.MakeCut(tr, blocks); c.Leaf != (api.Hash{}) || len(c.Path) != 0 || err != api.ErrRange {
					t.Errorf("height %d to %d blocks: %x and %v", height, blocks, c, err)
				}
			}
			if c := mustCut(t, tr, count); len(c.Path) != height || c.Leaf != mustNode(t, tr, spot{0, count - 1}) {
				t.Errorf("height %d: %x", height, c)
			}
		}
	}
}

// TestMakeCutOfNil is P12.1: ErrNone and nothing beside it if the tree is nil, whatever the number of blocks is.
func TestMakeCutOfNil(t *testing.T) {
	for _, blocks := range append(numbers(), noNumbers()...) {
		if c, err := step.MakeCut(nil, blocks); c.Leaf != (api.Hash{}) || len(c.Path) != 0 || err != api.ErrNone {
			t.Errorf("%d blocks: %x and %v", blocks, c, err)
		}
	}
}

// TestCut is P12.1: a cutting step leads to the root that leaf and path yield with every node on the right replaced by the empty hash of its level, up to the height for the remaining blocks, be they a tree's or not.
func TestCut(t *testing.T) {
	rnd := rand.New(rand.NewSource(23))
	for i, was := range numbers() {
		for _, blocks := range numbers()[:i+1] {
			last := blocks - 1
			c := step.Cut{Leaf: randomHash(rnd), Path: randomHashes(rnd, heightFor(was))}
			var left []api.Hash
			for level := range heightFor(blocks) {
				if place := last >> level; place^1 > place {
					left = append(left, empties[level])
				} else {
					left = append(left, c.Path[level])
				}
			}
			root := define(t, c.Leaf, last, c.Path)
			if got, want := mustEnd(t, c, root, was, blocks), define(t, c.Leaf, last, left); got != want {
				t.Errorf("%d blocks to %d: %x, not %x", was, blocks, got, want)
			}
		}
	}
}

// TestCutKnown is P12.1 and P12.2: roots that Python's hashlib made, of volumes with the known leaves.
func TestCutKnown(t *testing.T) {
	for _, c := range []struct {
		was, blocks uint64
		indices     []uint64
		root, want  string
	}{
		{1, 1, []uint64{0}, "0101010101010101010101010101010101010101010101010101010101010101", "0101010101010101010101010101010101010101010101010101010101010101"},
		{2, 1, []uint64{0, 1}, "22a3049ba4417ea398271a5a40edc561eb7d2a7aa93c49c704310a84593aef51", "0101010101010101010101010101010101010101010101010101010101010101"},
		{2, 2, []uint64{0, 1}, "22a3049ba4417ea398271a5a40edc561eb7d2a7aa93c49c704310a84593aef51", "22a3049ba4417ea398271a5a40edc561eb7d2a7aa93c49c704310a84593aef51"},
		{3, 1, []uint64{0, 1, 2}, "52052bdf3950a26559ae222cefa4191833cb83b4bbba4c65fe52014c99e92d80", "0101010101010101010101010101010101010101010101010101010101010101"},
		{3, 2, []uint64{0, 1, 2}, "52052bdf3950a26559ae222cefa4191833cb83b4bbba4c65fe52014c99e92d80", "22a3049ba4417ea398271a5a40edc561eb7d2a7aa93c49c704310a84593aef51"},
		{3, 3, []uint64{0, 1, 2}, "52052bdf3950a26559ae222cefa4191833cb83b4bbba4c65fe52014c99e92d80", "52052bdf3950a26559ae222cefa4191833cb83b4bbba4c65fe52014c99e92d80"},
		{5, 3, []uint64{0, 1, 2, 3, 4}, "68e29805990670a500a445b47312f544829029f91ce79d25f3c669c515a898e9", "52052bdf3950a26559ae222cefa4191833cb83b4bbba4c65fe52014c99e92d80"},
		{5, 4, []uint64{0, 1, 2, 3, 4}, "68e29805990670a500a445b47312f544829029f91ce79d25f3c669c515a898e9", "16955ca0c36b306c08cf9d745f8175e66af913a648bd4cea50c749b8637e448a"},
		{8, 5, []uint64{0, 1, 2, 3, 4, 5, 6, 7}, "0b9d1134b8d8db6f475401072d199947182e293c13b7bb96c14095ba075e1b4e", "68e29805990670a500a445b47312f544829029f91ce79d25f3c669c515a898e9"},
		{16, 2, []uint64{0, 3, 15}, "e7f0e19b9790c0343853c935352fd147ceee42f788a4c2250af9fe5bc4baa5db", "68fe68683cc36d4525daa41715c61ecde4c69a7ee801d63d6e7ee8a0c79d5e51"},
		{2147483649, 2147483648, []uint64{0, 2147483647, 2147483648}, "caeb823a8bd620bc5ce2b700f1c6c89d2f39cbd1bb0dd0039c965c0357be596c", "ff6b0618724729207beb790fb1d661e1a32dfbf22c59e2ec684ce71a404622ac"},
		{4294967296, 4294967296, []uint64{0, 4294967295}, "e7898590d74288c03860d9475d30ce8fdabc591707531a3fd7e23d71355c945c", "e7898590d74288c03860d9475d30ce8fdabc591707531a3fd7e23d71355c945c"},
		{4294967296, 4294967295, []uint64{0, 4294967294, 4294967295}, "7661ed2ce30f9a7e2be1d1f9818e55f1dd2b1f6165bdbab3c7bdb61c262e7e57", "41e747cf2d11c4fbfb31e2b70dbfb8287a5a553883c56e4dcbb4e63f1618f15b"},
		{4294967296, 1, []uint64{0, 1, 4294967295}, "2ec3f10c12a3580b40c831c4946e2419899f4fbb1a906a17667e2754c7bf2d64", "0101010101010101010101010101010101010101010101010101010101010101"},
		{4294967296, 2147483649, []uint64{2147483648, 4294967295}, "e33aa11b9e12d94d793fd8c17e3403916518f8d6e89945da61f686b0722b78c6", "2a1a339a7ffff89241228a90a5c203b3ef45699b6278deebad2438e7cb455918"},
	} {
		tr := knownTree(t, heightFor(c.was), c.indices...)
		if tr.Root() != hash(t, c.root) {
			t.Errorf("%d blocks: %x", c.was, tr.Root())
		}
		if got := mustEnd(t, mustCut(t, tr, c.blocks), hash(t, c.root), c.was, c.blocks); got != hash(t, c.want) {
			t.Errorf("%d blocks to %d: %x", c.was, c.blocks, got)
		}
	}
}

// TestCutOfTrees is P12.2: a cutting step leads from a volume's root to that of the tree that was cut, with heights that stay, and such that change by one and by more.
func TestCutOfTrees(t *testing.T) {
	rnd := rand.New(rand.NewSource(24))
	for i, was := range numbers() {
		for _, tr := range volumes(t, rnd, was) {
			for _, blocks := range numbers()[:i+1] {
				got := mustEnd(t, mustCut(t, tr, blocks), tr.Root(), was, blocks)
				if want := mustResize(t, tr, blocks).Root(); got != want {
					t.Fatalf("%d blocks to %d: %x, not the root %x", was, blocks, got, want)
				}
			}
		}
	}
}

// TestCutOfLowTrees is P12.2: every two numbers of blocks of low heights, with all leaves, and with some of them.
func TestCutOfLowTrees(t *testing.T) {
	rnd := rand.New(rand.NewSource(25))
	for was := uint64(1); was <= 33; was++ {
		for _, tr := range volumes(t, rnd, was) {
			for blocks := uint64(1); blocks <= was; blocks++ {
				cut := mustResize(t, tr, blocks)
				if got := mustEnd(t, mustCut(t, tr, blocks), tr.Root(), was, blocks); got != cut.Root() {
					t.Fatalf("%d blocks to %d: %x, not the root %x", was, blocks, got, cut.Root())
				}
			}
		}
	}
}

// TestCutOfMore is P12.2: leaves that a tree has beyond the blocks that were there are cut off too, also by a step to as many blocks.
func TestCutOfMore(t *testing.T) {
	rnd := rand.New(rand.NewSource(26))
	for _, was := range []uint64{3, 5, 6, 7, 9, 17, 1<<31 + 1, 1<<32 - 1} {
		h := heightFor(was)
		tr := mustTree(t, rnd, h, append(within(rnd, was), 1<<h-1, was)...)
		for _, blocks := range []uint64{1, 2, was - 1, was} {
			cut := mustResize(t, tr, blocks)
			if got := mustEnd(t, mustCut(t, tr, blocks), tr.Root(), was, blocks); got != cut.Root() || got == tr.Root() {
				t.Errorf("%d blocks to %d: %x, not the root %x", was, blocks, got, cut.Root())
			}
		}
	}
}

// TestCutAndGrow is P12.2: a volume that is cut and grown again has the leaves that remained, and nothing beyond them.
func TestCutAndGrow(t *testing.T) {
	rnd := rand.New(rand.NewSource(27))
	for i, was := range numbers() {
		tr := volumes(t, rnd, was)[1]
		for _, blocks := range numbers()[:i+1] {
			got := mustGrow(t, mustEnd(t, mustCut(t, tr, blocks), tr.Root(), was, blocks), blocks, was)
			if want := mustResize(t, mustResize(t, tr, blocks), was).Root(); got != want {
				t.Errorf("%d blocks to %d and back: %x, not %x", was, blocks, got, want)
			}
		}
	}
}

// TestCutTwice is P12.2: two cutting steps lead to where one does.
func TestCutTwice(t *testing.T) {
	rnd := rand.New(rand.NewSource(28))
	for i, was := range numbers() {
		tr := volumes(t, rnd, was)[1]
		for range 10 {
			j := rnd.Intn(i + 1)
			between, blocks := numbers()[j], numbers()[rnd.Intn(j+1)]
			first := mustEnd(t, mustCut(t, tr, between), tr.Root(), was, between)
			got := mustEnd(t, mustCut(t, mustResize(t, tr, between), blocks), first, between, blocks)
			if want := mustEnd(t, mustCut(t, tr, blocks), tr.Root(), was, blocks); got != want {
				t.Errorf("%d blocks to %d to %d: %x, not %x", was, between, blocks, got, want)
			}
		}
	}
}

// TestCutRange is P12.1: ErrRange and zeros if was or blocks isn't between 1 and 2^32, or blocks is greater than was, be it by one, also where the path is wrong and the root is another one.
func TestCutRange(t *testing.T) {
	rnd := rand.New(rand.NewSource(29))
	for i, was := range numbers() {
		tr := volumes(t, rnd, was)[1]
		c, bad := mustCut(t, tr, was), step.Cut{Leaf: randomHash(rnd), Path: randomHashes(rnd, tr.Height()+1)}
		for _, blocks := range append(append([]uint64{was + 1}, numbers()[i+1:]...), noNumbers()...) {
			noEnd(t, api.ErrRange, c, tr.Root(), was, blocks)
			noEnd(t, api.ErrRange, bad, randomHash(rnd), was, blocks)
		}
		for _, no := range noNumbers() {
			noEnd(t, api.ErrRange, c, tr.Root(), no, was)
			noEnd(t, api.ErrRange, bad, randomHash(rnd), no, was)
			for _, blocks := range noNumbers() {
				noEnd(t, api.ErrRange, c, tr.Root(), no, blocks)
			}
		}
	}
	one := known(0)
	for _, no := range noNumbers() {
		noEnd(t, api.ErrRange, step.Cut{Leaf: one}, one, no, 1)
		noEnd(t, api.ErrRange, step.Cut{Leaf: one}, one, 1, no)
		noEnd(t, api.ErrRange, step.Cut{}, api.Hash{}, no, no)
	}
}

// TestCutForm is P12.1: ErrForm and zeros if the number of hashes of the path isn't the height for was, though they yield the root, and also where they don't.
func TestCutForm(t *testing.T) {
	rnd := rand.New(rand.NewSource(30))
	for i, was := range numbers() {
		height := heightFor(was)
		for _, blocks := range []uint64{1, was/2 + 1, was} {
			for _, n := range []int{0, height - 1, height + 1, heightFor(blocks), 31, 32, 33, 34, 64, 256} {
				if n < 0 || n == height {
					continue
				}
				c := step.Cut{Leaf: randomHash(rnd), Path: randomHashes(rnd, n)}
				noEnd(t, api.ErrForm, c, randomHash(rnd), was, blocks)
				if n <= 32 && blocks <= 1<<n {
					noEnd(t, api.ErrForm, c, define(t, c.Leaf, blocks-1, c.Path), was, blocks)
				}
			}
		}
		tr := volumes(t, rnd, was)[1]
		for _, other := range numbers()[i+1:] {
			if heightFor(other) != height {
				noEnd(t, api.ErrForm, mustCut(t, tr, was), tr.Root(), other, was)
				noEnd(t, api.ErrForm, mustCut(t, tr, was), mustGrow(t, tr.Root(), was, other), other, was)
			}
		}
	}
}

// TestCutOfLowerHeight is P12.1: a path that would fit the remaining blocks doesn't fit those that were there, and the other way round.
func TestCutOfLowerHeight(t *testing.T) {
	rnd := rand.New(rand.NewSource(31))
	tr := mustTree(t, rnd, 4, below(16)...)
	cut := mustResize(t, tr, 4)
	noEnd(t, api.ErrForm, mustCut(t, cut, 4), cut.Root(), 16, 4)
	noEnd(t, api.ErrForm, mustCut(t, cut, 4), tr.Root(), 16, 4)
	noEnd(t, api.ErrForm, mustCut(t, tr, 4), tr.Root(), 8, 4)
	noEnd(t, api.ErrForm, mustCut(t, tr, 4), tr.Root(), 17, 4)
	for was := uint64(9); was <= 16; was++ {
		if got := mustEnd(t, mustCut(t, tr, 4), tr.Root(), was, 4); got != cut.Root() {
			t.Errorf("%d blocks: %x", was, got)
		}
	}
}

// TestCutProof is P12.1: ErrProof and zeros if leaf and path don't yield the root: with one bit turned of the root, of the leaf, or of any hash of the path, be it one that is replaced, or one above the height for the remaining blocks.
func TestCutProof(t *testing.T) {
	rnd := rand.New(rand.NewSource(32))
	for i, was := range numbers() {
		tr := volumes(t, rnd, was)[1]
		for _, blocks := range numbers()[:i+1] {
			c, root := mustCut(t, tr, blocks), tr.Root()
			mustEnd(t, c, root, was, blocks)
			noEnd(t, api.ErrProof, c, turned(root, rnd.Intn(256)), was, blocks)
			noEnd(t, api.ErrProof, c, api.Hash{}, was, blocks)
			noEnd(t, api.ErrProof, step.Cut{Leaf: turned(c.Leaf, rnd.Intn(256)), Path: c.Path}, root, was, blocks)
			for level := range c.Path {
				other := slices.Clone(c.Path)
				other[level] = turned(other[level], rnd.Intn(256))
				noEnd(t, api.ErrProof, step.Cut{Leaf: c.Leaf, Path: other}, root, was, blocks)
			}
		}
	}
}

// TestCutEachBit is P12.1: ErrProof for every bit of the root, of the leaf and of the path.
func TestCutEachBit(t *testing.T) {
	rnd := rand.New(rand.NewSource(33))
	tr := mustTree(t, rnd, 3, below(8)...)
	c := mustCut(t, tr, 3)
	for bit := range 256 {
		noEnd(t, api.ErrProof, c, turned(tr.Root(), bit), 8, 3)
		noEnd(t, api.ErrProof, step.Cut{Leaf: turned(c.Leaf, bit), Path: c.Path}, tr.Root(), 8, 3)
		for level := range c.Path {
			other := slices.Clone(c.Path)
			other[level] = turned(other[level], bit)
			noEnd(t, api.ErrProof, step.Cut{Leaf: c.Leaf, Path: other}, tr.Root(), 8, 3)
		}
	}
}

// TestCutToOtherBlocks is P12.1: a cutting step proves nothing for another number of blocks, nor does it lead on from its own end, nor does the path as it is once it is cut.
func TestCutToOtherBlocks(t *testing.T) {
	rnd := rand.New(rand.NewSource(34))
	for was := uint64(1); was <= 17; was++ {
		tr := mustTree(t, rnd, heightFor(was), below(was)...)
		for blocks := uint64(1); blocks <= was; blocks++ {
			c := mustCut(t, tr, blocks)
			for other := uint64(1); other <= was; other++ {
				if other != blocks {
					noEnd(t, api.ErrProof, c, tr.Root(), was, other)
				}
			}
			if blocks < was {
				end := mustEnd(t, c, tr.Root(), was, blocks)
				noEnd(t, api.ErrProof, c, end, was, blocks)
			}
			if after := mustCut(t, mustResize(t, mustResize(t, tr, blocks), was), blocks); blocks < was {
				noEnd(t, api.ErrProof, after, tr.Root(), was, blocks)
			}
		}
	}
}

// TestZeroCut is P12.1: a zero Cut is that of 1 block whose hash is zeros, and of nothing else.
func TestZeroCut(t *testing.T) {
	if got := mustEnd(t, step.Cut{}, api.Hash{}, 1, 1); got != (api.Hash{}) {
		t.Errorf("%x", got)
	}
	noEnd(t, api.ErrProof, step.Cut{}, empties[0], 1, 1)
	noEnd(t, api.ErrForm, step.Cut{}, api.Hash{}, 2, 1)
	noEnd(t, api.ErrRange, step.Cut{}, api.Hash{}, 1, 2)
}
