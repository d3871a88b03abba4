package span_test

import (
	"math/rand"
	"slices"
	"testing"

	"entrust/api"
	"entrust/node"
	"entrust/proof"
	"entrust/span"
)

// TestProofsYieldTheRoot is P11.2: the leaves of a tree's span, present or not, and its proof yield the tree's root, so Check returns nil.
func TestProofsYieldTheRoot(t *testing.T) {
	rnd := rand.New(rand.NewSource(21))
	for _, height := range heights() {
		for _, p := range someSpans(rnd, height) {
			for _, tr := range someTrees(t, rnd, height, p) {
				leaves, lists := mustLeaves(t, tr, p), mustMake(t, tr, p)
				if got := mustRoot(t, height, p.first, leaves, lists); got != tr.Root() {
					t.Fatalf("height %d, %d: %x, not the root %x", height, p, got, tr.Root())
				}
				if err := span.Check(tr.Root(), height, p.first, leaves, lists); err != nil {
					t.Fatalf("height %d, %d: %v", height, p, err)
				}
			}
		}
	}
}

// TestEachSpanOfLowTrees is P11.2: each span of trees of the heights 0 to 5, and one of trees of each other height.
func TestEachSpanOfLowTrees(t *testing.T) {
	rnd := rand.New(rand.NewSource(22))
	for height := range 33 {
		spans := []part{{uint64(rnd.Int63n(1 << height)), 1}}
		if height < 6 {
			spans = allSpans(height)
		}
		for _, tr := range someTrees(t, rnd, height, spans[0]) {
			for _, p := range spans {
				if err := span.Check(tr.Root(), height, p.first, mustLeaves(t, tr, p), mustMake(t, tr, p)); err != nil {
					t.Fatalf("height %d, %d: %v", height, p, err)
				}
			}
		}
	}
}

// TestRootOfAnyHashes is P11.1: the root is what the chapter defines, joined by layer 8, and what layer 10 gives for the same indices, also of leaves and hashes that are no tree's.
func TestRootOfAnyHashes(t *testing.T) {
	rnd := rand.New(rand.NewSource(23))
	for _, height := range heights() {
		for _, p := range someSpans(rnd, height) {
			for round := range 3 {
				left, right := beside(height, p)
				leaves := randomHashes(rnd, p.many)
				lists := span.Proof{Left: randomHashes(rnd, len(left)), Right: randomHashes(rnd, len(right))}
				if round == 0 {
					clear(leaves)
					clear(lists.Left)
					clear(lists.Right)
				}
				want := define(t, height, p, leaves, lists)
				if got := mustRoot(t, height, p.first, leaves, lists); got != want {
					t.Fatalf("height %d, %d: %x, not %x", height, p, got, want)
				}
				other, err := proof.Root(height, span.Indices(p.first, p.many), leaves, inOrder(lists))
				if err != nil || other != want {
					t.Fatalf("height %d, %d: layer 10 gives %x (%v), not %x", height, p, other, err, want)
				}
				if err := span.Check(want, height, p.first, leaves, lists); err != nil {
					t.Fatalf("height %d, %d: %v", height, p, err)
				}
			}
		}
	}
}

// TestRootKnown is P11.1: roots that were made by Python's hashlib, of trees of the heights 31 and 32.
func TestRootKnown(t *testing.T) {
	rnd := rand.New(rand.NewSource(24))
	for _, c := range []struct {
		height int
		part
		others map[uint64]uint64
		root   string
	}{
		{32, part{0, 1}, map[uint64]uint64{1: 1}, "3bd138c5afe0b95aa610a5db15907d52d40d0746d40d2bb3691e7a45ffd0edd1"},
		{32, part{1<<32 - 1, 1}, map[uint64]uint64{1<<32 - 2: 1}, "2d9d67b3e1792c7d64864f3511de71bb2d6b00f595efc27e9a901bc17db6e2b3"},
		{31, part{1<<31 - 256, 256}, map[uint64]uint64{0: 7}, "a28775ee64f072dc2a3f56a2183b41d1f5c76200b6e1c64c9f762531fb68617e"},
		{31, part{1<<30 - 1, 2}, nil, "2dee0533f18459d674073324f93474311b7dae599a26e0fc80960c5b6ac8c1ca"},
	} {
		tr := mustTree(t, rnd, c.height)
		var leaves []api.Hash
		for i := range uint64(c.many) {
			leaves = append(leaves, known(i))
		}
		for index, i := range c.others {
			mustSet(t, tr, index, known(i))
		}
		lists := mustMake(t, tr, c.part)
		if got := mustRoot(t, c.height, c.first, leaves, lists); got != hash(t, c.root) {
			t.Errorf("height %d, %d: %x", c.height, c.part, got)
		}
		if err := span.Check(hash(t, c.root), c.height, c.first, leaves, lists); err != nil {
			t.Errorf("height %d, %d: %v", c.height, c.part, err)
		}
	}
}

// TestRootOfHeightZero is P11.1: in a tree of height 0 the leaf is the root, and no other one.
func TestRootOfHeightZero(t *testing.T) {
	rnd := rand.New(rand.NewSource(25))
	for range 50 {
		a, b := randomHash(rnd), randomHash(rnd)
		if got := mustRoot(t, 0, 0, []api.Hash{a}, span.Proof{}); got != a {
			t.Errorf("%x, not %x", got, a)
		}
		if err := span.Check(a, 0, 0, []api.Hash{b}, span.Proof{}); err != api.ErrProof {
			t.Error(err)
		}
	}
}

// TestNothingIsEmpty is P11.1: leaves that aren't present, with the empty hashes beside them, yield the empty hash of the height.
func TestNothingIsEmpty(t *testing.T) {
	rnd := rand.New(rand.NewSource(26))
	empties := node.Empties()
	for height := range 33 {
		for _, p := range someSpans(rnd, height) {
			left, right := beside(height, p)
			var lists span.Proof
			for _, s := range left {
				lists.Left = append(lists.Left, empties[s.level])
			}
			for _, s := range right {
				lists.Right = append(lists.Right, empties[s.level])
			}
			leaves := slices.Repeat(empties[:1], p.many)
			if got := mustRoot(t, height, p.first, leaves, lists); got != empties[height] {
				t.Fatalf("height %d, %d: %x", height, p, got)
			}
		}
	}
}

// proven is a tree's leaves with their proof.
type proven struct {
	root   api.Hash
	height int
	part
	leaves []api.Hash
	lists  span.Proof
}

// check is Check of what is proven.
func (p proven) check() error {
	return span.Check(p.root, p.height, p.first, p.leaves, p.lists)
}

// all is the lists of hashes of what is proven.
func (p proven) all() [][]api.Hash {
	return [][]api.Hash{p.leaves, p.lists.Left, p.lists.Right}
}

// copy is the same with lists of its own.
func (p proven) copy() proven {
	p.leaves = slices.Clone(p.leaves)
	p.lists = span.Proof{Left: slices.Clone(p.lists.Left), Right: slices.Clone(p.lists.Right)}
	return p
}

// someProven is proofs of trees whose leaves are unlike, at least those of the spans.
func someProven(t *testing.T, rnd *rand.Rand) []proven {
	t.Helper()
	var out []proven
	for _, height := range heights() {
		for _, p := range someSpans(rnd, height) {
			trees := someTrees(t, rnd, height, p)
			tr := trees[len(trees)-1]
			if height >= 7 {
				tr = trees[1]
			}
			out = append(out, proven{tr.Root(), height, p, mustLeaves(t, tr, p), mustMake(t, tr, p)})
		}
	}
	return out
}

// TestOneBit is P11.1: Check is ErrProof with one bit of the root turned, or of a leaf, or of a hash of either list, in proofs of all sizes; Root yields another root.
func TestOneBit(t *testing.T) {
	rnd := rand.New(rand.NewSource(27))
	for _, p := range someProven(t, rnd) {
		turned, bit := p, rnd.Intn(256)
		turned.root[bit/8] ^= 1 << (bit % 8)
		if err := turned.check(); err != api.ErrProof {
			t.Fatalf("height %d, %d, bit %d of the root: %v", p.height, p.part, bit, err)
		}
		for _, list := range p.all() {
			for range min(len(list), 3) {
				i, bit := rnd.Intn(len(list)), rnd.Intn(256)
				list[i][bit/8] ^= 1 << (bit % 8)
				if err := p.check(); err != api.ErrProof {
					t.Fatalf("height %d, %d, bit %d of hash %d: %v", p.height, p.part, bit, i, err)
				}
				if got := mustRoot(t, p.height, p.first, p.leaves, p.lists); got == p.root {
					t.Fatalf("height %d, %d, bit %d of hash %d: the same root", p.height, p.part, bit, i)
				}
				list[i][bit/8] ^= 1 << (bit % 8)
			}
		}
		if err := p.check(); err != nil {
			t.Fatalf("height %d, %d: %v", p.height, p.part, err)
		}
	}
}

// TestEachBit is P11.1: Check is ErrProof with each bit of the root, of each leaf and of each hash of both lists of one proof turned.
func TestEachBit(t *testing.T) {
	rnd := rand.New(rand.NewSource(28))
	tr := mustTree(t, rnd, 3, 0, 1, 3, 4, 6)
	at := part{3, 2}
	p := proven{tr.Root(), 3, at, mustLeaves(t, tr, at), mustMake(t, tr, at)}
	turned := 0
	for _, list := range p.all() {
		for i := range list {
			for bit := range 256 {
				list[i][bit/8] ^= 1 << (bit % 8)
				if err := p.check(); err != api.ErrProof {
					t.Errorf("hash %d, bit %d: %v", i, bit, err)
				}
				list[i][bit/8] ^= 1 << (bit % 8)
				turned++
			}
		}
	}
	for bit := range 256 {
		p.root[bit/8] ^= 1 << (bit % 8)
		if err := p.check(); err != api.ErrProof {
			t.Errorf("root, bit %d: %v", bit, err)
		}
		p.root[bit/8] ^= 1 << (bit % 8)
	}
	if err := p.check(); err != nil || turned != 6*256 {
		t.Error(turned, err)
	}
}

// TestListsExchanged is P11.1: Check is ErrProof with the left list for the right one, be there as many hashes in both or not, unless they are alike.
func TestListsExchanged(t *testing.T) {
	rnd := rand.New(rand.NewSource(29))
	asMany := 0
	for _, p := range someProven(t, rnd) {
		other := p
		other.lists = span.Proof{Left: p.lists.Right, Right: p.lists.Left}
		if slices.Equal(p.lists.Left, p.lists.Right) {
			continue
		}
		if len(p.lists.Left) == len(p.lists.Right) {
			asMany++
		}
		if err := other.check(); err != api.ErrProof {
			t.Fatalf("height %d, %d: %v", p.height, p.part, err)
		}
	}
	if asMany < 10 {
		t.Errorf("as many hashes in both lists %d times alone", asMany)
	}
	for height := 2; height <= 32; height++ {
		p := part{1<<(height-1) - 1, 2}
		leaves, left, right := randomHashes(rnd, 2), randomHashes(rnd, height-1), randomHashes(rnd, height-1)
		root := mustRoot(t, height, p.first, leaves, span.Proof{Left: left, Right: right})
		if err := span.Check(root, height, p.first, leaves, span.Proof{Left: right, Right: left}); err != api.ErrProof {
			t.Errorf("height %d: %v", height, err)
		}
	}
}

// TestHashesExchanged is P11.1: Check is ErrProof with two hashes that are unlike exchanged, of the leaves, of one list, or of two of these.
func TestHashesExchanged(t *testing.T) {
	rnd := rand.New(rand.NewSource(30))
	for _, p := range someProven(t, rnd) {
		for range 8 {
			a, b := p.all()[rnd.Intn(3)], p.all()[rnd.Intn(3)]
			if len(a) == 0 || len(b) == 0 {
				continue
			}
			i, j := rnd.Intn(len(a)), rnd.Intn(len(b))
			if a[i] == b[j] {
				continue
			}
			a[i], b[j] = b[j], a[i]
			if err := p.check(); err != api.ErrProof {
				t.Fatalf("height %d, %d, %d and %d: %v", p.height, p.part, i, j, err)
			}
			a[i], b[j] = b[j], a[i]
		}
	}
}

// TestFromOneListToTheOther is P11.1: Check is ErrProof with one hash taken from the end or the beginning of a list to the other one, or to the leaves, and the other way round.
func TestFromOneListToTheOther(t *testing.T) {
	rnd := rand.New(rand.NewSource(31))
	for _, p := range someProven(t, rnd) {
		for _, way := range [][2]int{{1, 2}, {2, 1}} {
			lists := p.all()
			from, to := lists[way[0]], lists[way[1]]
			if len(from) == 0 {
				continue
			}
			for _, c := range [][2][]api.Hash{
				{from[1:], append(slices.Clone(to), from[0])},
				{from[1:], append([]api.Hash{from[0]}, to...)},
				{from[:len(from)-1], append(slices.Clone(to), from[len(from)-1])},
			} {
				other := p
				other.lists = span.Proof{Left: c[0], Right: c[1]}
				if way[0] == 2 {
					other.lists = span.Proof{Left: c[1], Right: c[0]}
				}
				if err := other.check(); err != api.ErrProof {
					t.Fatalf("height %d, %d, from list %d to %d: %v", p.height, p.part, way[0], way[1], err)
				}
			}
		}
	}
}

// TestOtherSpan is P11.1: Check is ErrProof with the leaves and the proof of another span, also where both have as many hashes in each list.
func TestOtherSpan(t *testing.T) {
	rnd := rand.New(rand.NewSource(32))
	asMany := 0
	for _, p := range someProven(t, rnd) {
		count := uint64(1) << p.height
		l, r := len(p.lists.Left), len(p.lists.Right)
		for range 12 {
			other := p
			other.first = []uint64{p.first + 1, p.first - 1, p.first ^ 1<<rnd.Intn(max(p.height, 1)), count - p.first - uint64(p.many), uint64(rnd.Int63n(int64(count)))}[rnd.Intn(5)]
			if other.first == p.first {
				continue
			}
			want := error(api.ErrProof)
			if !other.part.isSpan(p.height) {
				want = api.ErrRange
			} else if left, right := beside(p.height, other.part); len(left) == l && len(right) == r {
				asMany++
			}
			if err := other.check(); err != want {
				t.Fatalf("height %d, %d instead of %d: %v, not %v", p.height, other.part, p.part, err, want)
			}
		}
	}
	if asMany < 10 {
		t.Errorf("as many hashes in each list %d times alone", asMany)
	}
}

// TestOtherNumberOfLeaves is P11.1: Check is never nil with one leaf less or more, at the beginning or at the end, also where the lists have as many hashes as they must.
func TestOtherNumberOfLeaves(t *testing.T) {
	rnd := rand.New(rand.NewSource(33))
	asMany := 0
	for _, p := range someProven(t, rnd) {
		extra := randomHash(rnd)
		for _, c := range []struct {
			first  uint64
			leaves []api.Hash
		}{
			{p.first, p.leaves[1:]}, {p.first + 1, p.leaves[1:]}, {p.first, p.leaves[:p.many-1]},
			{p.first, append(slices.Clone(p.leaves), extra)}, {p.first, append([]api.Hash{extra}, p.leaves...)}, {p.first - 1, append([]api.Hash{extra}, p.leaves...)},
		} {
			other := p
			other.part, other.leaves = part{c.first, len(c.leaves)}, c.leaves
			want := error(api.ErrProof)
			if !other.part.isSpan(p.height) {
				want = api.ErrRange
			} else if left, right := beside(p.height, other.part); len(left) == len(p.lists.Left) && len(right) == len(p.lists.Right) {
				asMany++
			}
			if err := other.check(); err != want {
				t.Fatalf("height %d, %d instead of %d: %v, not %v", p.height, other.part, p.part, err, want)
			}
		}
	}
	if asMany < 3 {
		t.Errorf("as many hashes in each list %d times alone", asMany)
	}
}

// TestOtherHeight is P11.1: Check is ErrProof with another height for which there is the span, also if the right list is made as long as it must be then, and ErrRange with one for which there isn't.
func TestOtherHeight(t *testing.T) {
	rnd := rand.New(rand.NewSource(34))
	for _, p := range someProven(t, rnd) {
		for _, height := range []int{-1, 0, p.height - 1, p.height + 1, 9, 31, 32, 33} {
			if height == p.height {
				continue
			}
			other := p.copy()
			other.height = height
			want := error(api.ErrProof)
			if !p.part.isSpan(height) {
				want = api.ErrRange
			}
			if err := other.check(); err != want {
				t.Fatalf("height %d instead of %d, %d: %v, not %v", height, p.height, p.part, err, want)
			}
			if want == api.ErrRange {
				continue
			}
			_, right := beside(height, p.part)
			other.lists.Right = append(other.lists.Right, randomHashes(rnd, 32)...)[:len(right)]
			if err := other.check(); err != api.ErrProof {
				t.Fatalf("height %d instead of %d, %d, as many hashes: %v", height, p.height, p.part, err)
			}
			if root := mustRoot(t, height, p.first, p.leaves, other.lists); root == p.root {
				t.Fatalf("height %d instead of %d, %d: the same root", height, p.height, p.part)
			}
		}
	}
}

// TestOtherTree is P11.1: a proof, with its leaves, that was right for a tree isn't for the one that it has become; a proof made anew is.
func TestOtherTree(t *testing.T) {
	rnd := rand.New(rand.NewSource(35))
	for _, height := range heights() {
		for _, p := range someSpans(rnd, height) {
			tr := mustTree(t, rnd, height, p.indices()...)
			leaves, lists := mustLeaves(t, tr, p), mustMake(t, tr, p)
			before := tr.Root()
			index := rnd.Uint64() & (1<<height - 1)
			mustSet(t, tr, index, randomHash(rnd))
			if err := span.Check(tr.Root(), height, p.first, leaves, lists); err != api.ErrProof {
				t.Fatalf("height %d, %d, changed at %d: %v", height, p, index, err)
			}
			if err := span.Check(before, height, p.first, leaves, lists); err != nil {
				t.Fatalf("height %d, %d: %v", height, p, err)
			}
			if err := span.Check(tr.Root(), height, p.first, mustLeaves(t, tr, p), mustMake(t, tr, p)); err != nil {
				t.Fatalf("height %d, %d, made anew: %v", height, p, err)
			}
		}
	}
}

// TestNextRoot is P11.1: with other leaves, a proof yields the root that the tree has once these are set.
func TestNextRoot(t *testing.T) {
	rnd := rand.New(rand.NewSource(36))
	for _, height := range heights() {
		for _, p := range someSpans(rnd, height) {
			tr := mustTree(t, rnd, height, p.indices()[:p.many/2]...)
			lists, leaves := mustMake(t, tr, p), randomHashes(rnd, p.many)
			for i, index := range p.indices() {
				mustSet(t, tr, index, leaves[i])
			}
			if err := span.Check(tr.Root(), height, p.first, leaves, lists); err != nil {
				t.Fatalf("height %d, %d: %v", height, p, err)
			}
		}
	}
}
