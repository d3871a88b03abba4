package step_test

import (
	"math"
	"math/rand"
	"slices"
	"testing"

	"entrust/api"
	"entrust/proof"
	"entrust/step"
	"entrust/tree"
)

// mustWrite is a tree's writing step.
func mustWrite(t *testing.T, tr *tree.Tree, indices []uint64) step.Write {
	t.Helper()
	w, err := step.MakeWrite(tr, indices)
	if err != nil {
		t.Fatalf("height %d, %d indices: %v", tr.Height(), len(indices), err)
	}
	return w
}

// mustNext is the root behind a writing step.
func mustNext(t *testing.T, w step.Write, root api.Hash, height int, leaves []api.Hash) api.Hash {
	t.Helper()
	got, err := w.After(root, height, leaves)
	if err != nil {
		t.Fatalf("height %d, %d indices: %v", height, len(w.Indices), err)
	}
	return got
}

// noNext fails if there is a root behind a writing step, or the error is another one.
func noNext(t *testing.T, want error, w step.Write, root api.Hash, height int, leaves []api.Hash) {
	t.Helper()
	if got, err := w.After(root, height, leaves); got != (api.Hash{}) || err != want {
		t.Fatalf("height %d, %d indices, %d old leaves, %d beside, %d new ones: %x and %v, not %v", height, len(w.Indices), len(w.Old), len(w.Beside), len(leaves), got, err, want)
	}
}

// someLists is lists of indices of a height: of one index, of two, of some, and of as many as there may be, side by side and far apart.
func someLists(rnd *rand.Rand, height int) [][]uint64 {
	last := uint64(1)<<height - 1
	most := min(last+1, api.MaxBatch)
	out := [][]uint64{{0}, {last}, {rnd.Uint64() & last}, proof.Sort(0, last), proof.Sort(last/2, last/2+1&last), below(most), proof.Sort(last-1&last, last)}
	var few, many, end []uint64
	for i := range most {
		many = append(many, rnd.Uint64()&last)
		end = append(end, last-i)
		if i < 5 {
			few = append(few, rnd.Uint64()&last)
		}
	}
	return append(out, proof.Sort(few...), proof.Sort(many...), proof.Sort(end...))
}

// noLists is what isn't a list of indices of a height: none, one more than there may be, one behind the last, and such as don't increase.
func noLists(height int) [][]uint64 {
	count := uint64(1) << height
	out := [][]uint64{nil, {}, {count}, {count + 1}, {0, count}, {count - 1, count}, {1 << 32}, {1 << 63}, {math.MaxUint64}, {0, math.MaxUint64}, {0, 0}, {1, 0}, {count - 1, count - 1}, {count, 0}, {0, 1, 1}, {0, 2, 1}, below(257), below(300)}
	if count > 256 {
		out = append(out, append([]uint64{0}, below(256)...), append(below(256), 0), append(below(255), count))
	}
	return out
}

// beside is the nodes that chapter 10's definition reaches of those that have none of the indices below them, from one node on.
func beside(at spot, indices []uint64) []spot {
	isBelow := func(index uint64) bool { return index>>at.level == at.place }
	switch {
	case !slices.ContainsFunc(indices, isBelow):
		return []spot{at}
	case at.level == 0:
		return nil
	}
	return append(beside(spot{at.level - 1, 2 * at.place}, indices), beside(spot{at.level - 1, 2*at.place + 1}, indices)...)
}

// defineWrite is the root that leaves and a proof yield as the chapters define it: what is known stands at its place, and is joined by layer 8 level by level.
func defineWrite(t *testing.T, height int, indices []uint64, leaves, hashes []api.Hash) api.Hash {
	t.Helper()
	at := map[spot]api.Hash{}
	for i, index := range indices {
		at[spot{0, index}] = leaves[i]
	}
	spots := beside(spot{height, 0}, indices)
	if len(spots) != len(hashes) {
		t.Fatalf("height %d, %d indices: %d hashes, not %d", height, len(indices), len(hashes), len(spots))
	}
	for i, s := range spots {
		at[s] = hashes[i]
	}
	for level := range height {
		for _, index := range indices {
			place := index >> (level + 1)
			left, is1 := at[spot{level, 2 * place}]
			right, is2 := at[spot{level, 2*place + 1}]
			if _, is := at[spot{level + 1, place}]; is {
				continue
			}
			if !is1 || !is2 {
				t.Fatal(height, index, level)
			}
			at[spot{level + 1, place}] = join(t, level+1, left, right)
		}
	}
	return at[spot{height, 0}]
}

// someTrees is trees of a height: one without leaves, one with those at some indices, one with every other one of them and with some beside, and, if it is low, one with all leaves.
func someTrees(t *testing.T, rnd *rand.Rand, height int, indices []uint64) []*tree.Tree {
	t.Helper()
	last := uint64(1)<<height - 1
	around := []uint64{0, last, indices[0] ^ 1&last, rnd.Uint64() & last}
	for i, index := range indices {
		if i%2 == 0 {
			around = append(around, index)
		}
	}
	trees := []*tree.Tree{mustTree(t, rnd, height), mustTree(t, rnd, height, indices...), mustTree(t, rnd, height, around...)}
	if height < 7 {
		trees = append(trees, mustTree(t, rnd, height, below(1<<height)...))
	}
	return trees
}

// newLeaves is as many leaves, some of them empty.
func newLeaves(rnd *rand.Rand, n int) []api.Hash {
	out := randomHashes(rnd, n)
	for i := range out {
		if rnd.Intn(4) == 0 {
			out[i] = empties[0]
		}
	}
	return out
}

// TestMakeWrite is P12.1: a writing step has the indices, the leaves there, and the nodes that the definition of the proof reaches, which are what layers 9 and 10 have for the same tree.
func TestMakeWrite(t *testing.T) {
	rnd := rand.New(rand.NewSource(41))
	for _, height := range heights() {
		for _, indices := range someLists(rnd, height) {
			for _, tr := range someTrees(t, rnd, height, indices) {
				w := mustWrite(t, tr, indices)
				var old, aside []api.Hash
				for _, index := range indices {
					old = append(old, mustNode(t, tr, spot{0, index}))
				}
				for _, s := range beside(spot{height, 0}, indices) {
					aside = append(aside, mustNode(t, tr, s))
				}
				if !slices.Equal(w.Indices, indices) || !slices.Equal(w.Old, old) || !slices.Equal(w.Beside, aside) {
					t.Fatalf("height %d, %d indices: %d, %x, %x", height, len(indices), w.Indices, w.Old, w.Beside)
				}
				leaves, err1 := proof.Leaves(tr, indices)
				hashes, err2 := proof.Make(tr, indices)
				if err1 != nil || err2 != nil || !slices.Equal(w.Old, leaves) || !slices.Equal(w.Beside, hashes) {
					t.Fatalf("height %d, %d indices: not what layer 10 has (%v, %v)", height, len(indices), err1, err2)
				}
			}
		}
	}
}

// TestMakeWriteKnown is P12.1: a step for the indices 1 and 2 of 8 known leaves, written out by hand.
func TestMakeWriteKnown(t *testing.T) {
	w := mustWrite(t, knownTree(t, 3, below(8)...), []uint64{1, 2})
	above := join(t, 2, join(t, 1, known(4), known(5)), join(t, 1, known(6), known(7)))
	if !slices.Equal(w.Indices, []uint64{1, 2}) || !slices.Equal(w.Old, []api.Hash{known(1), known(2)}) || !slices.Equal(w.Beside, []api.Hash{known(0), known(3), above}) {
		t.Errorf("%x", w)
	}
	w = mustWrite(t, knownTree(t, 0), []uint64{0})
	if !slices.Equal(w.Indices, []uint64{0}) || !slices.Equal(w.Old, []api.Hash{empties[0]}) || len(w.Beside) != 0 {
		t.Errorf("%x", w)
	}
}

// TestMakeWriteErrors is P12.1: ErrRange and nothing beside it for what isn't a list of indices of the tree's height, as Make of layer 10 has it.
func TestMakeWriteErrors(t *testing.T) {
	rnd := rand.New(rand.NewSource(42))
	for _, height := range heights() {
		tr := mustTree(t, rnd, height, 0)
		for _, indices := range noLists(height) {
			_, want := proof.Make(tr, indices)
			if w, err := step.MakeWrite(tr, indices); len(w.Indices)+len(w.Old)+len(w.Beside) != 0 || err != api.ErrRange || err != want {
				t.Errorf("height %d, %d: %x and %v, and layer 10 says %v", height, indices, w, err, want)
			}
		}
	}
}

// TestMakeWriteOfNil is P12.1: ErrNone and nothing beside it if the tree is nil, whatever the indices are.
func TestMakeWriteOfNil(t *testing.T) {
	for _, indices := range append(noLists(3), []uint64{0}, []uint64{1, 2}, below(256)) {
		if w, err := step.MakeWrite(nil, indices); len(w.Indices)+len(w.Old)+len(w.Beside) != 0 || err != api.ErrNone {
			t.Errorf("%d: %x and %v", indices, w, err)
		}
	}
}

// TestWrite is P12.1: a writing step leads to the root that the new leaves yield with the same proof, be they a tree's or not.
func TestWrite(t *testing.T) {
	rnd := rand.New(rand.NewSource(43))
	for _, height := range heights() {
		for _, indices := range someLists(rnd, height) {
			n := len(beside(spot{height, 0}, indices))
			w := step.Write{Indices: indices, Old: newLeaves(rnd, len(indices)), Beside: randomHashes(rnd, n)}
			root, leaves := defineWrite(t, height, indices, w.Old, w.Beside), newLeaves(rnd, len(indices))
			if got, want := mustNext(t, w, root, height, leaves), defineWrite(t, height, indices, leaves, w.Beside); got != want {
				t.Errorf("height %d, %d indices: %x, not %x", height, len(indices), got, want)
			}
		}
	}
}

// TestWriteKnown is P12.1 and P12.2: roots that Python's hashlib made, of trees of the known leaves, where the ones for 100 more are written.
func TestWriteKnown(t *testing.T) {
	for _, c := range []struct {
		height           int
		indices, written []uint64
		root, want       string
	}{
		{0, []uint64{}, []uint64{0}, "6e340b9cffb37a989ca544e6bb780a2c78901d3fb33738768511a30617afa01d", "6565656565656565656565656565656565656565656565656565656565656565"},
		{0, []uint64{0}, []uint64{0}, "0101010101010101010101010101010101010101010101010101010101010101", "6565656565656565656565656565656565656565656565656565656565656565"},
		{1, []uint64{0, 1}, []uint64{1}, "22a3049ba4417ea398271a5a40edc561eb7d2a7aa93c49c704310a84593aef51", "886604f3ffe78d7998a777df905ff40313511432bac8bad246be48fc6941a619"},
		{2, []uint64{0, 3}, []uint64{1, 2}, "263972c85c40ed58bd8e5205e021dac01874bf048a2a747a294ec614681a1215", "e8f4eb6da1700b93a7c829376f31c9e35578ceeb04877e50905306365ba97b7f"},
		{3, []uint64{0, 1, 2, 5}, []uint64{0, 5, 7}, "b9e8f7d8c6c88ac8565f8e9beaa164b5e66e7340b1ae4e5e22c56568a611f0ef", "df3d2b4ee45de1ae86f4d58c3d1f3adfe45b39bdac5eea3c533bfc8a1cbf98f9"},
		{31, []uint64{0}, []uint64{2147483647}, "2dec7af05afe5a10fad3e6da02d0dbdd32799ba0db380bf334dceda4d2b346e0", "77bc7ae0c902e59e47da77421a71f38def19c9857e37a3f17be3272de226ca3a"},
		{32, []uint64{0, 4294967295}, []uint64{0, 2147483648, 4294967295}, "e7898590d74288c03860d9475d30ce8fdabc591707531a3fd7e23d71355c945c", "cfb1b2e30e0adc80ff468d3735cebe5d5b29dfa5cd1abb6183e074932d11bcfe"},
	} {
		tr := knownTree(t, c.height, c.indices...)
		if tr.Root() != hash(t, c.root) {
			t.Errorf("height %d: %x", c.height, tr.Root())
		}
		var leaves []api.Hash
		for _, index := range c.written {
			leaves = append(leaves, known(index+100))
		}
		if got := mustNext(t, mustWrite(t, tr, c.written), hash(t, c.root), c.height, leaves); got != hash(t, c.want) {
			t.Errorf("height %d: %x", c.height, got)
		}
	}
}

// TestWriteOfTrees is P12.2: a writing step leads from a tree's root to that of the tree that is written to, also where leaves are removed.
func TestWriteOfTrees(t *testing.T) {
	rnd := rand.New(rand.NewSource(44))
	for _, height := range heights() {
		for _, indices := range someLists(rnd, height) {
			for _, tr := range someTrees(t, rnd, height, indices) {
				w, root, leaves := mustWrite(t, tr, indices), tr.Root(), newLeaves(rnd, len(indices))
				for i, index := range indices {
					mustSet(t, tr, index, leaves[i])
				}
				if got := mustNext(t, w, root, height, leaves); got != tr.Root() {
					t.Fatalf("height %d, %d indices: %x, not the root %x", height, len(indices), got, tr.Root())
				}
			}
		}
	}
}

// TestWriteOfLowTrees is P12.2: each list of indices of the heights 0 to 3, with new leaves, with none, and with those that are there.
func TestWriteOfLowTrees(t *testing.T) {
	rnd := rand.New(rand.NewSource(45))
	for height := range 4 {
		for set := 1; set < 1<<(1<<height); set++ {
			var indices []uint64
			for index := range uint64(1) << height {
				if set>>index&1 == 1 {
					indices = append(indices, index)
				}
			}
			tr := mustTree(t, rnd, height, proof.Sort(rnd.Uint64()&(1<<height-1), rnd.Uint64()&(1<<height-1))...)
			w, root := mustWrite(t, tr, indices), tr.Root()
			if got := mustNext(t, w, root, height, w.Old); got != root {
				t.Fatalf("height %d, %d: %x, not %x", height, indices, got, root)
			}
			leaves, nothing := randomHashes(rnd, len(indices)), slices.Repeat(empties[:1], len(indices))
			for _, next := range [][]api.Hash{leaves, nothing} {
				for i, index := range indices {
					mustSet(t, tr, index, next[i])
				}
				if got := mustNext(t, w, root, height, next); got != tr.Root() {
					t.Fatalf("height %d, %d: %x, not %x", height, indices, got, tr.Root())
				}
			}
		}
	}
}

// TestWritesInSuccession is P12.2: the root behind a step is the one that the next step begins at, and the way back leads back.
func TestWritesInSuccession(t *testing.T) {
	rnd := rand.New(rand.NewSource(46))
	for _, height := range heights() {
		tr := mustTree(t, rnd, height)
		root := tr.Root()
		for _, indices := range someLists(rnd, height) {
			w, leaves := mustWrite(t, tr, indices), newLeaves(rnd, len(indices))
			next := mustNext(t, w, root, height, leaves)
			back := step.Write{Indices: w.Indices, Old: leaves, Beside: w.Beside}
			if got := mustNext(t, back, next, height, w.Old); got != root {
				t.Fatalf("height %d, %d indices: back to %x, not %x", height, len(indices), got, root)
			}
			for i, index := range indices {
				mustSet(t, tr, index, leaves[i])
			}
			root = next
		}
		if root != tr.Root() {
			t.Errorf("height %d: %x, not %x", height, root, tr.Root())
		}
	}
}

// TestWriteRange is P12.1: ErrRange and zeros for a number that is no height, and for what isn't a list of indices for it, whatever the leaves, the hashes and the root are.
func TestWriteRange(t *testing.T) {
	rnd := rand.New(rand.NewSource(47))
	tr := mustTree(t, rnd, 3, 0, 5)
	w := mustWrite(t, tr, []uint64{1, 2})
	leaves := randomHashes(rnd, 2)
	for _, height := range noHeights() {
		noNext(t, api.ErrRange, w, tr.Root(), height, leaves)
		noNext(t, api.ErrRange, w, tr.Root(), height, nil)
		noNext(t, api.ErrRange, step.Write{}, api.Hash{}, height, nil)
	}
	noNext(t, api.ErrRange, w, tr.Root(), 0, leaves)
	noNext(t, api.ErrRange, w, tr.Root(), 1, leaves)
	for _, height := range heights() {
		for _, indices := range noLists(height) {
			for _, n := range []int{0, 1, len(indices)} {
				w := step.Write{Indices: indices, Old: randomHashes(rnd, n), Beside: randomHashes(rnd, n)}
				noNext(t, api.ErrRange, w, randomHash(rnd), height, randomHashes(rnd, len(indices)))
				noNext(t, api.ErrRange, w, randomHash(rnd), height, randomHashes(rnd, n+1))
			}
		}
		noNext(t, api.ErrRange, step.Write{}, empties[height], height, nil)
	}
}

// TestWriteForm is P12.1: ErrForm and zeros if the number of old leaves, or that of new ones, isn't that of the indices.
func TestWriteForm(t *testing.T) {
	rnd := rand.New(rand.NewSource(48))
	for _, height := range heights() {
		for _, indices := range someLists(rnd, height) {
			tr := mustTree(t, rnd, height, indices...)
			w, root, n := mustWrite(t, tr, indices), tr.Root(), len(indices)
			for _, wrong := range []int{0, n - 1, n + 1, 256, 257} {
				if wrong == n {
					continue
				}
				old := step.Write{Indices: indices, Old: append(slices.Clone(w.Old), w.Old...)[:min(wrong, 2*n)], Beside: w.Beside}
				if len(old.Old) != n {
					noNext(t, api.ErrForm, old, root, height, randomHashes(rnd, n))
					noNext(t, api.ErrForm, old, randomHash(rnd), height, randomHashes(rnd, wrong))
				}
				noNext(t, api.ErrForm, w, root, height, randomHashes(rnd, wrong))
			}
			noNext(t, api.ErrForm, w, root, height, append(slices.Clone(w.Old), w.Old[0]))
			noNext(t, api.ErrForm, w, root, height, w.Old[:n-1])
		}
	}
}

// TestWriteProof is P12.1: ErrProof and zeros if the number of hashes isn't that of the proof, or the old leaves yield another root: with one bit turned of the root, of a leaf, or of a hash.
func TestWriteProof(t *testing.T) {
	rnd := rand.New(rand.NewSource(49))
	for _, height := range heights() {
		for _, indices := range someLists(rnd, height) {
			tr := mustTree(t, rnd, height, indices...)
			w, root, leaves := mustWrite(t, tr, indices), tr.Root(), randomHashes(rnd, len(indices))
			noNext(t, api.ErrProof, w, turned(root, rnd.Intn(256)), height, leaves)
			noNext(t, api.ErrProof, w, defineWrite(t, height, indices, leaves, w.Beside), height, leaves)
			noNext(t, api.ErrProof, step.Write{Indices: indices, Old: w.Old, Beside: append(slices.Clone(w.Beside), empties[0])}, root, height, leaves)
			noNext(t, api.ErrProof, step.Write{Indices: indices, Old: leaves, Beside: w.Beside}, root, height, w.Old)
			if n := len(w.Beside); n > 0 {
				noNext(t, api.ErrProof, step.Write{Indices: indices, Old: w.Old, Beside: w.Beside[:n-1]}, root, height, leaves)
				noNext(t, api.ErrProof, step.Write{Indices: indices, Old: w.Old}, root, height, leaves)
			}
			for _, i := range someOf(rnd, len(w.Old)) {
				noNext(t, api.ErrProof, step.Write{Indices: indices, Old: turnedAt(w.Old, i, rnd.Intn(256)), Beside: w.Beside}, root, height, leaves)
			}
			for _, i := range someOf(rnd, len(w.Beside)) {
				noNext(t, api.ErrProof, step.Write{Indices: indices, Old: w.Old, Beside: turnedAt(w.Beside, i, rnd.Intn(256))}, root, height, leaves)
			}
		}
	}
}

// someOf is some of the places of a list, the first and the last one among them: all of a short one.
func someOf(rnd *rand.Rand, n int) []int {
	if n <= 3 {
		return []int{0, 1, 2}[:n]
	}
	return []int{0, 1 + rnd.Intn(n-2), n - 1}
}

// turnedAt is hashes with one bit of one of them turned.
func turnedAt(hashes []api.Hash, i, bit int) []api.Hash {
	out := slices.Clone(hashes)
	out[i] = turned(out[i], bit)
	return out
}

// TestWriteEachBit is P12.1: ErrProof for every bit of the root, of the old leaves and of the hashes beside.
func TestWriteEachBit(t *testing.T) {
	rnd := rand.New(rand.NewSource(50))
	tr := mustTree(t, rnd, 3, below(8)...)
	w, root, leaves := mustWrite(t, tr, []uint64{1, 2}), tr.Root(), randomHashes(rnd, 2)
	for bit := range 256 {
		noNext(t, api.ErrProof, w, turned(root, bit), 3, leaves)
		for i := range w.Old {
			noNext(t, api.ErrProof, step.Write{Indices: w.Indices, Old: turnedAt(w.Old, i, bit), Beside: w.Beside}, root, 3, leaves)
		}
		for i := range w.Beside {
			noNext(t, api.ErrProof, step.Write{Indices: w.Indices, Old: w.Old, Beside: turnedAt(w.Beside, i, bit)}, root, 3, leaves)
		}
	}
}

// TestWriteFirstError is P12.1: of several errors, the one that the chapters name first: those of Check, ErrRange, ErrForm and ErrProof, and then ErrForm for the new leaves.
func TestWriteFirstError(t *testing.T) {
	rnd := rand.New(rand.NewSource(51))
	tr := mustTree(t, rnd, 4, below(16)...)
	w, root := mustWrite(t, tr, []uint64{3, 8, 9}), tr.Root()
	none, other := []api.Hash{}, randomHash(rnd)
	for _, wrong := range [][]api.Hash{none, randomHashes(rnd, 2), randomHashes(rnd, 4)} {
		for _, aside := range [][]api.Hash{none, w.Beside, w.Beside[1:], append(slices.Clone(w.Beside), other)} {
			for _, old := range [][]api.Hash{none, w.Old, w.Old[1:], append(slices.Clone(w.Old), other)} {
				noNext(t, api.ErrRange, step.Write{Indices: []uint64{3, 9, 8}, Old: old, Beside: aside}, other, 4, wrong)
				noNext(t, api.ErrRange, step.Write{Indices: w.Indices, Old: old, Beside: aside}, other, 3, wrong)
				noNext(t, api.ErrRange, step.Write{Indices: w.Indices, Old: old, Beside: aside}, root, -1, wrong)
				if len(old) != 3 {
					noNext(t, api.ErrForm, step.Write{Indices: w.Indices, Old: old, Beside: aside}, other, 4, wrong)
				}
			}
			if len(aside) != len(w.Beside) {
				noNext(t, api.ErrProof, step.Write{Indices: w.Indices, Old: w.Old, Beside: aside}, root, 4, wrong)
			}
		}
		noNext(t, api.ErrProof, w, other, 4, wrong)
		noNext(t, api.ErrForm, w, root, 4, wrong)
	}
}

// TestWriteOfOtherIndices is P12.1: a writing step proves nothing for other indices of the same tree, nor for another height.
func TestWriteOfOtherIndices(t *testing.T) {
	rnd := rand.New(rand.NewSource(52))
	tr := mustTree(t, rnd, 4, below(16)...)
	for index := range uint64(16) {
		w := mustWrite(t, tr, []uint64{index})
		for other := range uint64(16) {
			if other != index {
				noNext(t, api.ErrProof, step.Write{Indices: []uint64{other}, Old: w.Old, Beside: w.Beside}, tr.Root(), 4, w.Old)
			}
		}
		noNext(t, api.ErrProof, w, tr.Root(), 5, w.Old)
	}
}
