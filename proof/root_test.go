package proof_test

import (
	"bytes"
	"crypto/sha256"
	"math/rand"
	"slices"
	"testing"

	"entrust/api"
	"entrust/node"
	"entrust/proof"
	"entrust/tree"
)

// TestProofsYieldTheRoot is P10.2: the leaves at a tree's indices, present or not, and their proof yield the tree's root, so Check returns nil.
func TestProofsYieldTheRoot(t *testing.T) {
	rnd := rand.New(rand.NewSource(11))
	for _, height := range heights() {
		for _, indices := range someLists(rnd, height) {
			for _, tr := range someTrees(t, rnd, height, indices) {
				leaves, beside := mustMake(t, tr, indices)
				if got := mustRoot(t, height, indices, leaves, beside); got != tr.Root() {
					t.Fatalf("height %d, indices %d: %x, not the root %x", height, indices, got, tr.Root())
				}
				if err := proof.Check(tr.Root(), height, indices, leaves, beside); err != nil {
					t.Fatalf("height %d, indices %d: %v", height, indices, err)
				}
			}
		}
	}
}

// TestEachHeight is P10.2: neighbours, and indices far apart, of trees of each height.
func TestEachHeight(t *testing.T) {
	rnd := rand.New(rand.NewSource(10))
	for height := range 33 {
		last := uint64(1)<<height - 1
		indices := proof.Sort(0, 1&last, last/2, last/2+1&last, last, rnd.Uint64()&last)
		tr := mustTree(t, rnd, height, append(indices, rnd.Uint64()&last)...)
		leaves, beside := mustMake(t, tr, indices)
		if err := proof.Check(tr.Root(), height, indices, leaves, beside); err != nil {
			t.Fatalf("height %d, indices %d: %v", height, indices, err)
		}
	}
}

// TestEachListOfLowTrees is P10.2: each list of indices of trees of the heights 0 to 3.
func TestEachListOfLowTrees(t *testing.T) {
	rnd := rand.New(rand.NewSource(12))
	for height := range 4 {
		for _, tr := range someTrees(t, rnd, height, []uint64{0}) {
			for set := 1; set < 1<<(1<<height); set++ {
				indices := members(set)
				leaves, beside := mustMake(t, tr, indices)
				if err := proof.Check(tr.Root(), height, indices, leaves, beside); err != nil {
					t.Fatalf("height %d, indices %d: %v", height, indices, err)
				}
			}
		}
	}
}

// TestRootKnown is P10.1: roots that were made by Python's hashlib, of trees of the heights 31 and 32 with one leaf.
func TestRootKnown(t *testing.T) {
	empties := node.Empties()
	for _, c := range []struct {
		height int
		index  uint64
		root   string
	}{
		{32, 1<<32 - 1, "cdddaaafd70d57acf736ae427701ccd82223c1dc840dfb9be092c052aa386d02"},
		{32, 0, "44d03da52a215bb0661a65da7e52df88afc14691048b44af5e778768102decc0"},
		{31, 1 << 30, "789498e9c259c30c96582e95681d2088d89f02fdf21867d806584b7fc6e61542"},
	} {
		var beside []api.Hash
		for _, s := range reached(spot{c.height, 0}, []uint64{c.index}) {
			beside = append(beside, empties[s.level])
		}
		if got := mustRoot(t, c.height, []uint64{c.index}, []api.Hash{known(8)}, beside); got != hash(t, c.root) {
			t.Errorf("height %d, index %d: %x", c.height, c.index, got)
		}
	}
}

// TestRootOfAnyHashes is P10.1: the root and the texts are what the chapter defines, joined by layer 8, also of leaves and hashes that are no tree's.
func TestRootOfAnyHashes(t *testing.T) {
	rnd := rand.New(rand.NewSource(13))
	for _, height := range heights() {
		for _, indices := range someLists(rnd, height) {
			for round := range 3 {
				leaves := randomHashes(rnd, len(indices))
				beside := randomHashes(rnd, len(reached(spot{height, 0}, indices)))
				if round == 0 {
					clear(leaves)
					clear(beside)
				}
				root, texts := define(t, height, indices, leaves, beside)
				if got := mustRoot(t, height, indices, leaves, beside); got != root {
					t.Fatalf("height %d, indices %d: %x, not %x", height, indices, got, root)
				}
				got := mustTexts(t, height, indices, leaves, beside)
				if !slices.EqualFunc(got, texts, bytes.Equal) {
					t.Fatalf("height %d, indices %d: texts %x, not %x", height, indices, got, texts)
				}
				lastIsTheRoots(t, height, got, root)
			}
		}
	}
}

// lastIsTheRoots fails if the last text's hash isn't the root, by Go's own SHA-256.
func lastIsTheRoots(t *testing.T, height int, texts [][]byte, root api.Hash) {
	t.Helper()
	if height > 0 && api.Hash(sha256.Sum256(texts[len(texts)-1])) != root {
		t.Fatalf("height %d: the last text is %x", height, texts[len(texts)-1])
	}
}

// TestTextsKnown is P10.1: texts written out by hand: left before right, what is below before what is above.
func TestTextsKnown(t *testing.T) {
	rnd := rand.New(rand.NewSource(14))
	h := randomHashes(rnd, 8)
	text := func(height int, left, right api.Hash) []byte {
		return slices.Concat([]byte{2, byte(height)}, left[:], right[:])
	}
	sum := func(height int, left, right api.Hash) api.Hash { return sha256.Sum256(text(height, left, right)) }
	for _, c := range []struct {
		height         int
		indices        []uint64
		leaves, beside []api.Hash
		want           [][]byte
	}{
		{1, []uint64{0}, h[:1], h[1:2], [][]byte{text(1, h[0], h[1])}},
		{1, []uint64{1}, h[:1], h[1:2], [][]byte{text(1, h[1], h[0])}},
		{1, []uint64{0, 1}, h[:2], nil, [][]byte{text(1, h[0], h[1])}},
		{2, []uint64{0, 1}, h[:2], h[2:3], [][]byte{text(1, h[0], h[1]), text(2, sum(1, h[0], h[1]), h[2])}},
		{2, []uint64{2}, h[:1], h[1:3], [][]byte{text(1, h[0], h[2]), text(2, h[1], sum(1, h[0], h[2]))}},
		{2, []uint64{0, 3}, h[:2], h[2:4], [][]byte{text(1, h[0], h[2]), text(1, h[3], h[1]), text(2, sum(1, h[0], h[2]), sum(1, h[3], h[1]))}},
		{3, []uint64{1, 6, 7}, h[:3], h[3:6], [][]byte{
			text(1, h[3], h[0]), text(2, sum(1, h[3], h[0]), h[4]),
			text(1, h[1], h[2]), text(2, h[5], sum(1, h[1], h[2])),
			text(3, sum(2, sum(1, h[3], h[0]), h[4]), sum(2, h[5], sum(1, h[1], h[2])))}},
	} {
		got := mustTexts(t, c.height, c.indices, c.leaves, c.beside)
		if !slices.EqualFunc(got, c.want, bytes.Equal) {
			t.Errorf("height %d, indices %d: %x, not %x", c.height, c.indices, got, c.want)
		}
		root := mustRoot(t, c.height, c.indices, c.leaves, c.beside)
		lastIsTheRoots(t, c.height, got, root)
	}
}

// proven is a tree's leaves with their proof.
type proven struct {
	root           api.Hash
	height         int
	indices        []uint64
	leaves, beside []api.Hash
}

// someProven is proofs of trees whose leaves are all unlike, at least beside the indices.
func someProven(t *testing.T, rnd *rand.Rand) []proven {
	t.Helper()
	var out []proven
	for _, height := range heights() {
		for _, indices := range someLists(rnd, height) {
			trees := someTrees(t, rnd, height, indices)
			tr := trees[len(trees)-1]
			if height >= 7 {
				tr = trees[1]
			}
			leaves, beside := mustMake(t, tr, indices)
			out = append(out, proven{tr.Root(), height, indices, leaves, beside})
		}
	}
	return out
}

// check is Check of what is proven.
func (p proven) check() error {
	return proof.Check(p.root, p.height, p.indices, p.leaves, p.beside)
}

// TestOneBit is P10.1 and P10.3: Check is ErrProof with one bit of the root turned, or of a leaf, or of a hash of the proof, in proofs of all sizes.
func TestOneBit(t *testing.T) {
	rnd := rand.New(rand.NewSource(15))
	for _, p := range someProven(t, rnd) {
		turned, bit := p, rnd.Intn(256)
		turned.root[bit/8] ^= 1 << (bit % 8)
		if err := turned.check(); err != api.ErrProof {
			t.Fatalf("height %d, indices %d, bit %d of the root: %v", p.height, p.indices, bit, err)
		}
		for _, list := range [][]api.Hash{p.leaves, p.beside} {
			for range min(len(list), 3) {
				i, bit := rnd.Intn(len(list)), rnd.Intn(256)
				list[i][bit/8] ^= 1 << (bit % 8)
				if err := p.check(); err != api.ErrProof {
					t.Fatalf("height %d, indices %d, bit %d of hash %d: %v", p.height, p.indices, bit, i, err)
				}
				list[i][bit/8] ^= 1 << (bit % 8)
			}
		}
		if err := p.check(); err != nil {
			t.Fatalf("height %d, indices %d: %v", p.height, p.indices, err)
		}
	}
}

// TestEachBit is P10.1 and P10.3: Check is ErrProof with each bit of the root, of each leaf and of each hash of one proof turned.
func TestEachBit(t *testing.T) {
	rnd := rand.New(rand.NewSource(16))
	tr := mustTree(t, rnd, 3, 0, 1, 3, 4, 6)
	indices := []uint64{1, 5, 6}
	leaves, beside := mustMake(t, tr, indices)
	p := proven{tr.Root(), 3, indices, leaves, beside}
	turned := 0
	for _, list := range [][]api.Hash{p.leaves, p.beside} {
		for i := range list {
			for bit := range 256 {
				list[i][bit/8] ^= 1 << (bit % 8)
				if err := p.check(); err != api.ErrProof {
					t.Errorf("hash %d, bit %d: %v", i, bit, err)
				}
				list[i][bit/8] ^= 1 << (bit % 8)
				turned++
			}
		}
	}
	for bit := range 256 {
		p.root[bit/8] ^= 1 << (bit % 8)
		if err := p.check(); err != api.ErrProof {
			t.Errorf("root, bit %d: %v", bit, err)
		}
		p.root[bit/8] ^= 1 << (bit % 8)
	}
	if err := p.check(); err != nil || turned != 7*256 {
		t.Error(turned, err)
	}
}

// TestExchanged is P10.1 and P10.3: Check is ErrProof with two leaves that are unlike, two such hashes of the proof, or one of each, exchanged.
func TestExchanged(t *testing.T) {
	rnd := rand.New(rand.NewSource(17))
	for _, p := range someProven(t, rnd) {
		for range 6 {
			lists := [][]api.Hash{p.leaves, p.beside}
			a, b := lists[rnd.Intn(2)], lists[rnd.Intn(2)]
			if len(a) == 0 || len(b) == 0 {
				continue
			}
			i, j := rnd.Intn(len(a)), rnd.Intn(len(b))
			if a[i] == b[j] {
				continue
			}
			a[i], b[j] = b[j], a[i]
			if err := p.check(); err != api.ErrProof {
				t.Fatalf("height %d, indices %d, %d and %d: %v", p.height, p.indices, i, j, err)
			}
			a[i], b[j] = b[j], a[i]
		}
	}
}

// TestOtherIndices is P10.1 and P10.3: Check is ErrProof with the leaves and the proof of other indices, as many of them, and of another height.
func TestOtherIndices(t *testing.T) {
	rnd := rand.New(rand.NewSource(18))
	for _, p := range someProven(t, rnd) {
		last := uint64(1)<<p.height - 1
		for range 8 {
			other := p
			other.indices = slices.Clone(p.indices)
			i := rnd.Intn(len(other.indices))
			other.indices[i] = other.indices[i] ^ 1<<rnd.Intn(max(p.height, 1))&last
			other.indices = proof.Sort(other.indices...)
			if len(other.indices) != len(p.indices) || slices.Equal(other.indices, p.indices) {
				continue
			}
			if err := other.check(); err != api.ErrProof {
				t.Fatalf("height %d, indices %d instead of %d: %v", p.height, other.indices, p.indices, err)
			}
		}
		for _, height := range []int{0, p.height - 1, p.height + 1, 9, 31, 32} {
			other := p
			other.height = height
			want := api.ErrProof
			if !proof.Right(height, p.indices) {
				want = api.ErrRange
			}
			if err := other.check(); height != p.height && err != want {
				t.Fatalf("height %d instead of %d, indices %d: %v, not %v", height, p.height, p.indices, err, want)
			}
		}
	}
}

// TestOtherTree is P10.1: a proof, with its leaves, that was right for a tree isn't for the one that it has become, unless it was changed back; a proof made anew is.
func TestOtherTree(t *testing.T) {
	rnd := rand.New(rand.NewSource(19))
	for _, height := range heights() {
		last := uint64(1)<<height - 1
		for _, indices := range someLists(rnd, height) {
			tr := mustTree(t, rnd, height, indices...)
			leaves, beside := mustMake(t, tr, indices)
			before := tr.Root()
			index := rnd.Uint64() & last
			old := mustNode(t, tr, spot{0, index})
			if err := tr.Set(index, randomHash(rnd)); err != nil {
				t.Fatal(err)
			}
			if err := proof.Check(tr.Root(), height, indices, leaves, beside); err != api.ErrProof {
				t.Fatalf("height %d, indices %d, changed at %d: %v", height, indices, index, err)
			}
			if err := proof.Check(before, height, indices, leaves, beside); err != nil {
				t.Fatalf("height %d, indices %d: %v", height, indices, err)
			}
			leaves, beside = mustMake(t, tr, indices)
			if err := proof.Check(tr.Root(), height, indices, leaves, beside); err != nil {
				t.Fatalf("height %d, indices %d, made anew: %v", height, indices, err)
			}
			if err := tr.Set(index, old); err != nil || tr.Root() != before {
				t.Fatal(err, tr.Root(), before)
			}
		}
	}
}

// TestNextRoot is P10.1: with other leaves, a proof yields the root that the tree has once these are set.
func TestNextRoot(t *testing.T) {
	rnd := rand.New(rand.NewSource(20))
	for _, height := range heights() {
		for _, indices := range someLists(rnd, height) {
			tr := mustTree(t, rnd, height, indices[:len(indices)/2]...)
			_, beside := mustMake(t, tr, indices)
			leaves := randomHashes(rnd, len(indices))
			for i, index := range indices {
				if err := tr.Set(index, leaves[i]); err != nil {
					t.Fatal(err)
				}
			}
			if err := proof.Check(tr.Root(), height, indices, leaves, beside); err != nil {
				t.Fatalf("height %d, indices %d: %v", height, indices, err)
			}
		}
	}
}

// mustCopy is a tree's copy, so that a test sees whether the tree is changed.
func mustCopy(t *testing.T, tr *tree.Tree) *tree.Tree {
	t.Helper()
	c := tr.Copy()
	if c.Root() != tr.Root() || c.Len() != tr.Len() {
		t.Fatal("a copy isn't the same")
	}
	return c
}
