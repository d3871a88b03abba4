package span_test

import (
	"math/rand"
	"slices"
	"testing"

	"entrust/api"
	"entrust/node"
	"entrust/proof"
	"entrust/span"
	"entrust/tree"
)

// isAt fails if a list's hashes aren't one by one, in their order, those of a tree's nodes.
func isAt(t *testing.T, tr *tree.Tree, p part, list []api.Hash, spots []spot) {
	t.Helper()
	if len(list) != len(spots) {
		t.Fatalf("height %d, %d: %d hashes, not %d", tr.Height(), p, len(list), len(spots))
	}
	for i, s := range spots {
		if want := mustNode(t, tr, s); list[i] != want {
			t.Fatalf("height %d, %d, hash %d, %v: %x, not %x", tr.Height(), p, i, s, list[i], want)
		}
	}
}

// TestMake is P11.1: both lists are hash by hash, in their order, the tree's nodes that the definition reaches.
func TestMake(t *testing.T) {
	rnd := rand.New(rand.NewSource(11))
	for _, height := range heights() {
		for _, p := range someSpans(rnd, height) {
			left, right := beside(height, p)
			for _, tr := range someTrees(t, rnd, height, p) {
				lists := mustMake(t, tr, p)
				isAt(t, tr, p, lists.Left, left)
				isAt(t, tr, p, lists.Right, right)
			}
		}
	}
}

// TestMakeOfLowTrees is P11.1: every span of low trees whose leaves are all unlike.
func TestMakeOfLowTrees(t *testing.T) {
	rnd := rand.New(rand.NewSource(12))
	for height := range 6 {
		tr := mustTree(t, rnd, height, part{0, 1 << height}.indices()...)
		for _, p := range allSpans(height) {
			left, right := beside(height, p)
			lists := mustMake(t, tr, p)
			isAt(t, tr, p, lists.Left, left)
			isAt(t, tr, p, lists.Right, right)
		}
	}
}

// TestMakeOfLayer10 is P11.2: from left to right, both lists are hash by hash the proof of layer 10 for the same indices, so they have as many hashes.
func TestMakeOfLayer10(t *testing.T) {
	rnd := rand.New(rand.NewSource(13))
	for _, height := range heights() {
		for _, p := range someSpans(rnd, height) {
			for _, tr := range someTrees(t, rnd, height, p) {
				want, err := proof.Make(tr, span.Indices(p.first, p.many))
				if err != nil {
					t.Fatal(err)
				}
				lists := mustMake(t, tr, p)
				if len(lists.Left)+len(lists.Right) != len(want) || !slices.Equal(inOrder(lists), want) {
					t.Fatalf("height %d, %d: %x and %x, and layer 10 has %x", height, p, lists.Left, lists.Right, want)
				}
			}
		}
	}
}

// TestMakeExample is P11.1: the chapter's example. For the leaves 2 and 3 of a tree of height 2, the left list has the node of level 1 at 0, and the right one nothing.
func TestMakeExample(t *testing.T) {
	tr := mustTree(t, rand.New(rand.NewSource(14)), 2, 0, 1, 2, 3)
	lists := mustMake(t, tr, part{2, 2})
	if !slices.Equal(lists.Left, []api.Hash{mustNode(t, tr, spot{1, 0})}) || len(lists.Right) != 0 {
		t.Errorf("%x and %x", lists.Left, lists.Right)
	}
}

// TestMakeKnown is P11.1: proofs written out by hand of a tree of height 3 with leaves at 0, 1, 3, 4 and 6, with hashes that were made by Python's hashlib.
func TestMakeKnown(t *testing.T) {
	tr := mustTree(t, rand.New(rand.NewSource(15)), 3)
	for _, index := range []uint64{0, 1, 3, 4, 6} {
		mustSet(t, tr, index, known(index))
	}
	nothing := hash(t, "6e340b9cffb37a989ca544e6bb780a2c78901d3fb33738768511a30617afa01d")
	over01 := hash(t, "22a3049ba4417ea398271a5a40edc561eb7d2a7aa93c49c704310a84593aef51")
	over45 := hash(t, "31923d966a3aed0423793dac0ed43175b0804d0820b30ef33b61764b1a754629")
	over67 := hash(t, "d05f196f7cc8cd7d562234e5fbe18e9f4557a1d212cfc05518b290b25a74ac8e")
	over03 := hash(t, "b197cf840d7e91a739c0051f288c299de5a1c575313712778db5da1cbd16afb3")
	over47 := hash(t, "e4b5faa64f5e400bfd211625e3346c3ec356cba678aa23cafb12e9d596a7d9ec")
	root := hash(t, "d7e1dd1ef5c1c6c537a68be17e7fbc3e0ded9664a5140a8cdb46fe49b5df2209")
	for _, c := range []struct {
		part
		left, right []api.Hash
	}{
		{part{1, 4}, []api.Hash{known(0)}, []api.Hash{nothing, over67}},
		{part{3, 2}, []api.Hash{nothing, over01}, []api.Hash{nothing, over67}},
		{part{2, 2}, []api.Hash{over01}, []api.Hash{over47}},
		{part{5, 3}, []api.Hash{known(4), over03}, nil},
		{part{6, 1}, []api.Hash{over45, over03}, []api.Hash{nothing}},
		{part{0, 1}, nil, []api.Hash{known(1), hash(t, "f39b25dfce8815815aab109114340723c90291cc5761eefd4374f5ef0d5da401"), over47}},
		{part{0, 3}, nil, []api.Hash{known(3), over47}},
		{part{1, 6}, []api.Hash{known(0)}, []api.Hash{nothing}},
		{part{0, 8}, nil, nil},
	} {
		lists := mustMake(t, tr, c.part)
		if !slices.Equal(lists.Left, c.left) || !slices.Equal(lists.Right, c.right) {
			t.Errorf("%d: %x and %x", c.part, lists.Left, lists.Right)
		}
		if l, r, err := span.Counts(3, c.first, c.many); l != len(c.left) || r != len(c.right) || err != nil {
			t.Errorf("%d: %d and %d, %v", c.part, l, r, err)
		}
		if got := mustRoot(t, 3, c.first, mustLeaves(t, tr, c.part), span.Proof{Left: c.left, Right: c.right}); got != root {
			t.Errorf("%d: root %x", c.part, got)
		}
	}
}

// TestMakeKnownOfHighTrees is P11.1: hashes that were made by Python's hashlib, of a tree of height 32 with 256 leaves on both sides of its middle, and one beside each end, and at the first and the last index; all other hashes are the empty ones.
func TestMakeKnownOfHighTrees(t *testing.T) {
	p := part{1<<31 - 100, 256}
	tr := mustTree(t, rand.New(rand.NewSource(16)), 32)
	for i, index := range p.indices() {
		mustSet(t, tr, index, known(uint64(i)))
	}
	mustSet(t, tr, p.first-1, known(200))
	mustSet(t, tr, p.first+256, known(201))
	mustSet(t, tr, 0, known(202))
	mustSet(t, tr, 1<<32-1, known(203))
	full := map[spot]api.Hash{
		{2, 536870886}: hash(t, "d07d90f1bc007cd2d2f5e5949e28ddc9fd92aa17404375806a4d6d911e7a998b"),
		{30, 0}:        hash(t, "d9f0fafab43198c85240d9efa7b9523f99c4232216e63d5d9ec1555233c2cd51"),
		{2, 536870951}: hash(t, "84ee908ecc3e96f3be94e6581625e172b37185a913d7b70f5d94be08bbc8cee5"),
		{30, 3}:        hash(t, "b82b20877ac234f08e8e5dee2237254c3443a8934bff2f0c5ad42d0151383aca"),
	}
	empties := node.Empties()
	lists := mustMake(t, tr, p)
	left, right := beside(32, p)
	found := 0
	for i, s := range slices.Concat(left, right) {
		want, is := full[s]
		if is {
			found++
		} else {
			want = empties[s.level]
		}
		if got := slices.Concat(lists.Left, lists.Right)[i]; got != want {
			t.Errorf("hash %d, %v: %x, not %x", i, s, got, want)
		}
	}
	if found != len(full) || len(lists.Left) != 27 || len(lists.Right) != 26 {
		t.Errorf("%d of those that aren't empty, lists of %d and %d", found, len(lists.Left), len(lists.Right))
	}
	if got := mustRoot(t, 32, p.first, mustLeaves(t, tr, p), lists); got != hash(t, "84227f63e3306a4d568c63bb88468f1440e80a7b1aa9ca5265c40721eb405ab7") {
		t.Errorf("root %x", got)
	}
}

// TestMakeOfOneIndex is P11.1: the lists of one index are together the path of layer 9: a level's node is on the left where the index's place is odd.
func TestMakeOfOneIndex(t *testing.T) {
	rnd := rand.New(rand.NewSource(17))
	for height := range 33 {
		last := uint64(1)<<height - 1
		for _, index := range []uint64{0, last, last / 2, last/2 + 1, rnd.Uint64()} {
			index &= last
			tr := mustTree(t, rnd, height, index, index^1&last, last-index)
			path, err := tr.Path(index)
			if err != nil {
				t.Fatal(err)
			}
			var left, right []api.Hash
			for level, h := range path {
				if index>>level&1 == 1 {
					left = append(left, h)
				} else {
					right = append(right, h)
				}
			}
			lists := mustMake(t, tr, part{index, 1})
			if !slices.Equal(lists.Left, left) || !slices.Equal(lists.Right, right) {
				t.Errorf("height %d, index %d: %x and %x", height, index, lists.Left, lists.Right)
			}
		}
	}
}

// TestMakeOfAllLeaves is P11.1: for all leaves of a tree there is nothing beside them, be they present or not.
func TestMakeOfAllLeaves(t *testing.T) {
	rnd := rand.New(rand.NewSource(18))
	for height := range 9 {
		p := part{0, 1 << height}
		for _, tr := range someTrees(t, rnd, height, p) {
			lists := mustMake(t, tr, p)
			if len(lists.Left) != 0 || len(lists.Right) != 0 {
				t.Errorf("height %d: %x and %x", height, lists.Left, lists.Right)
			}
		}
	}
}

// TestMakeOfOtherTrees is P11.1: the leaves of the span don't matter to its proof, and each other leaf does: it changes the hash of the node above it, and no other one.
func TestMakeOfOtherTrees(t *testing.T) {
	rnd := rand.New(rand.NewSource(19))
	for _, height := range []int{1, 2, 3, 5} {
		tr := mustTree(t, rnd, height, part{0, 1 << height}.indices()...)
		for _, p := range allSpans(height) {
			before := mustMake(t, tr, p)
			left, right := beside(height, p)
			for index := range uint64(1) << height {
				old := mustNode(t, tr, spot{0, index})
				mustSet(t, tr, index, randomHash(rnd))
				after := mustMake(t, tr, p)
				mustSet(t, tr, index, old)
				for i, s := range left {
					if (before.Left[i] != after.Left[i]) != (index>>s.level == s.place) {
						t.Fatalf("height %d, %d, leaf %d: left hash %d", height, p, index, i)
					}
				}
				for i, s := range right {
					if (before.Right[i] != after.Right[i]) != (index>>s.level == s.place) {
						t.Fatalf("height %d, %d, leaf %d: right hash %d", height, p, index, i)
					}
				}
				if inside := index >= p.first && index < p.first+uint64(p.many); inside && (!slices.Equal(before.Left, after.Left) || !slices.Equal(before.Right, after.Right)) {
					t.Fatalf("height %d, %d: leaf %d changes the proof", height, p, index)
				}
			}
		}
	}
}
