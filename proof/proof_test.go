package proof_test

import (
	"encoding/hex"
	"maps"
	"math"
	"math/rand"
	"slices"
	"testing"

	"entrust/api"
	"entrust/node"
	"entrust/proof"
	"entrust/tree"
)

// spot is where a node is.
type spot struct {
	level int
	place uint64
}

// hasBelow is whether one of the indices is below a node, or is it.
func (s spot) hasBelow(indices []uint64) bool {
	for _, index := range indices {
		if index>>s.level == s.place {
			return true
		}
	}
	return false
}

// below is the two nodes below one.
func (s spot) below() (left, right spot) {
	return spot{s.level - 1, 2 * s.place}, spot{s.level - 1, 2*s.place + 1}
}

// reached is the nodes of which the hashes are in a proof, in the order in which the chapter's procedure reaches them from a node.
func reached(s spot, indices []uint64) []spot {
	if !s.hasBelow(indices) {
		return []spot{s}
	}
	if s.level == 0 {
		return nil
	}
	left, right := s.below()
	return append(reached(left, indices), reached(right, indices)...)
}

// definition is the root that leaves and a proof yield as the chapter defines it, joined by layer 8, with what is left of both, and the texts.
type definition struct {
	t              *testing.T
	indices        []uint64
	leaves, beside []api.Hash
	texts          [][]byte
}

// node is what a node yields.
func (d *definition) node(s spot) api.Hash {
	d.t.Helper()
	var h api.Hash
	switch {
	case !s.hasBelow(d.indices):
		h, d.beside = d.beside[0], d.beside[1:]
	case s.level == 0:
		h, d.leaves = d.leaves[0], d.leaves[1:]
	default:
		l, r := s.below()
		left := d.node(l)
		right := d.node(r)
		text, err1 := node.JoinText(s.level, left, right)
		joined, err2 := node.Join(s.level, left, right)
		if err1 != nil || err2 != nil {
			d.t.Fatal(s, err1, err2)
		}
		d.texts = append(d.texts, text)
		h = joined
	}
	return h
}

// define is the root and the texts as the chapter defines them.
func define(t *testing.T, height int, indices []uint64, leaves, beside []api.Hash) (api.Hash, [][]byte) {
	t.Helper()
	d := &definition{t, indices, leaves, beside, nil}
	root := d.node(spot{height, 0})
	if len(d.leaves) != 0 || len(d.beside) != 0 {
		t.Fatalf("height %d, indices %d: %d leaves and %d hashes are left", height, indices, len(d.leaves), len(d.beside))
	}
	return root, d.texts
}

func randomHash(rnd *rand.Rand) api.Hash {
	var h api.Hash
	rnd.Read(h[:])
	return h
}

func randomHashes(rnd *rand.Rand, n int) []api.Hash {
	all := make([]api.Hash, n)
	for i := range all {
		all[i] = randomHash(rnd)
	}
	return all
}

// hash is the hash that is written in hexadecimal digits.
func hash(t *testing.T, s string) api.Hash {
	t.Helper()
	b, err := hex.DecodeString(s)
	if err != nil || len(b) != len(api.Hash{}) {
		t.Fatal(s, err)
	}
	return api.Hash(b)
}

// mustTree is a tree in which the leaves at some indices are present.
func mustTree(t *testing.T, rnd *rand.Rand, height int, indices ...uint64) *tree.Tree {
	t.Helper()
	tr, err := tree.New(height)
	if err != nil {
		t.Fatal(err)
	}
	for _, index := range indices {
		if err := tr.Set(index, randomHash(rnd)); err != nil {
			t.Fatal(err)
		}
	}
	return tr
}

// mustNode is a tree's node.
func mustNode(t *testing.T, tr *tree.Tree, s spot) api.Hash {
	t.Helper()
	h, err := tr.Node(s.level, s.place)
	if err != nil {
		t.Fatal(err)
	}
	return h
}

// mustMake is the leaves at indices, and their proof.
func mustMake(t *testing.T, tr *tree.Tree, indices []uint64) (leaves, beside []api.Hash) {
	t.Helper()
	leaves, err1 := proof.Leaves(tr, indices)
	beside, err2 := proof.Make(tr, indices)
	if err1 != nil || err2 != nil {
		t.Fatalf("height %d, indices %d: %v, %v", tr.Height(), indices, err1, err2)
	}
	return leaves, beside
}

// mustRoot is the root that leaves and a proof yield.
func mustRoot(t *testing.T, height int, indices []uint64, leaves, beside []api.Hash) api.Hash {
	t.Helper()
	root, err := proof.Root(height, indices, leaves, beside)
	if err != nil {
		t.Fatalf("height %d, indices %d: %v", height, indices, err)
	}
	return root
}

// mustTexts is the texts of the nodes that are joined.
func mustTexts(t *testing.T, height int, indices []uint64, leaves, beside []api.Hash) [][]byte {
	t.Helper()
	texts, err := proof.Texts(height, indices, leaves, beside)
	if err != nil {
		t.Fatalf("height %d, indices %d: %v", height, indices, err)
	}
	return texts
}

// run is consecutive indices.
func run(from uint64, n int) []uint64 {
	out := make([]uint64, n)
	for i := range out {
		out[i] = from + uint64(i)
	}
	return out
}

// someLists is lists of indices for a height: one index, neighbours below one node and below two, indices far apart, all of them as far as they are few enough, and random ones, up to 256.
func someLists(rnd *rand.Rand, height int) [][]uint64 {
	count := uint64(1) << height
	last := count - 1
	lists := [][]uint64{{0}, {last}, {rnd.Uint64() & last}}
	if height == 0 {
		return lists
	}
	lists = append(lists, []uint64{1}, []uint64{count / 2}, []uint64{count/2 - 1}, []uint64{0, 1}, []uint64{last - 1, last}, []uint64{0, last}, []uint64{count/2 - 1, count / 2})
	if height > 1 {
		lists = append(lists, []uint64{1, 2}, []uint64{0, 2}, []uint64{0, count / 2}, []uint64{0, count / 2, last}, run(1, int(min(last, 256)-1)))
	}
	n := min(count, api.MaxBatch)
	lists = append(lists, run(0, int(n)), run(count-n, int(n)), run((count-n)/2, int(n)))
	for _, size := range []uint64{1 + n/7, 1 + n/2, n} {
		some := map[uint64]bool{}
		for uint64(len(some)) < size {
			some[rnd.Uint64()&last] = true
		}
		lists = append(lists, slices.Sorted(maps.Keys(some)))
	}
	return lists
}

// someTrees is trees of a height: one without leaves, one with those at the indices, one with half of them and others, and, if it is low, one with all leaves.
func someTrees(t *testing.T, rnd *rand.Rand, height int, indices []uint64) []*tree.Tree {
	t.Helper()
	last := uint64(1)<<height - 1
	var half []uint64
	for i, index := range indices {
		if i%2 == 0 {
			half = append(half, index, rnd.Uint64()&last, index^1&last)
		}
	}
	trees := []*tree.Tree{mustTree(t, rnd, height), mustTree(t, rnd, height, indices...), mustTree(t, rnd, height, half...)}
	if height < 7 {
		trees = append(trees, mustTree(t, rnd, height, run(0, 1<<height)...))
	}
	return trees
}

// heights is those of the trees in most tests.
func heights() []int {
	return []int{0, 1, 2, 3, 4, 8, 9, 31, 32}
}

// noHeights is numbers that are no tree's height.
func noHeights() []int {
	return []int{33, 34, 63, 64, 65, 255, 256, 1 << 31, 1 << 32, 1<<32 + 1, math.MaxInt - 1, math.MaxInt, -1, -2, -32, -64, -1 << 32, math.MinInt + 1, math.MinInt}
}

// noLists is what isn't a list of indices for a height.
func noLists(height int) [][]uint64 {
	count := uint64(1) << height
	last := count - 1
	lists := [][]uint64{nil, {}, {count}, {0, count}, {count + 1}, {1 << 32}, {1<<32 + 1}, {0, 1 << 32}, {1 << 63}, {math.MaxUint64}, {0, math.MaxUint64}, {math.MaxUint64, 0}, {math.MaxUint64, math.MaxUint64}, {count, 0}, {0, 0}, {last, last}, {0, 0, 0}, run(0, 257), run(count-min(count, 257), 257), run(0, 1000), make([]uint64, 256), make([]uint64, 257), run(count, 256), run(count-1, 2)}
	if height > 0 {
		lists = append(lists, []uint64{1, 0}, []uint64{0, 1, 1}, []uint64{0, 0, 1}, []uint64{1, 1, 0}, []uint64{0, 1, 0}, []uint64{last, 0}, []uint64{last, last - 1}, []uint64{0, last, count})
	}
	if height > 1 {
		lists = append(lists, []uint64{2, 1, 3}, []uint64{1, 3, 2}, []uint64{0, 2, 2, 3}, []uint64{0, 2, 1, 3}, []uint64{count, 1, 2}, []uint64{0, count, 2}, []uint64{0, math.MaxUint64, 1})
	}
	return lists
}

// TestRight is P10.1: lists of 1 to 256 strictly increasing indices of a height are right for it.
func TestRight(t *testing.T) {
	rnd := rand.New(rand.NewSource(1))
	for height := 0; height <= 32; height++ {
		for _, indices := range someLists(rnd, height) {
			if !proof.Right(height, indices) {
				t.Errorf("height %d, indices %d", height, indices)
			}
		}
	}
	if !proof.Right(32, []uint64{1<<32 - 1}) || !proof.Right(31, []uint64{1<<31 - 1}) || !proof.Right(0, []uint64{0}) || !proof.Right(32, run(1<<32-256, 256)) {
		t.Error("the last indices")
	}
}

// TestNotRight is P10.1: nothing else is right: other heights, lists of none or of more than 256, indices that are alike, that fall, or that the height doesn't have.
func TestNotRight(t *testing.T) {
	rnd := rand.New(rand.NewSource(2))
	for height := 0; height <= 32; height++ {
		for _, indices := range noLists(height) {
			if proof.Right(height, indices) {
				t.Errorf("height %d, indices %d", height, indices)
			}
		}
	}
	for _, height := range noHeights() {
		for _, indices := range append(someLists(rnd, 8), nil, []uint64{1 << 32}, []uint64{math.MaxUint64}, []uint64{1, 0}) {
			if proof.Right(height, indices) {
				t.Errorf("height %d, indices %d", height, indices)
			}
		}
	}
}

// TestRightAtEachPlace is P10.1: one pair of indices that are alike, or that fall, is enough for a list not to be right, wherever it is.
func TestRightAtEachPlace(t *testing.T) {
	for _, n := range []int{2, 3, 10, 256} {
		for i := range n - 1 {
			indices := run(5, n)
			indices[i+1] = indices[i]
			if proof.Right(32, indices) {
				t.Errorf("%d and %d of %d are alike", i, i+1, n)
			}
			indices = run(5, n)
			indices[i], indices[i+1] = indices[i+1], indices[i]
			if proof.Right(32, indices) {
				t.Errorf("%d and %d of %d fall", i, i+1, n)
			}
			indices = run(5, n)
			indices[i] += 1 << 40
			if proof.Right(32, indices) {
				t.Errorf("%d of %d is too great", i, n)
			}
		}
	}
}

// TestSort is P10.1: Sort of none, of one, and of many in any order, some of them more than once.
func TestSort(t *testing.T) {
	for _, c := range []struct{ in, want []uint64 }{
		{nil, nil}, {[]uint64{}, nil}, {[]uint64{0}, []uint64{0}}, {[]uint64{math.MaxUint64}, []uint64{math.MaxUint64}},
		{[]uint64{7, 7}, []uint64{7}}, {[]uint64{2, 1}, []uint64{1, 2}}, {[]uint64{1, 2}, []uint64{1, 2}},
		{[]uint64{3, 1, 3, 2, 1, 3}, []uint64{1, 2, 3}}, {[]uint64{0, 0, 0}, []uint64{0}},
		{[]uint64{math.MaxUint64, 0, 1 << 63, 1<<63 - 1, 1 << 32, math.MaxUint64}, []uint64{0, 1 << 32, 1<<63 - 1, 1 << 63, math.MaxUint64}},
	} {
		if got := proof.Sort(c.in...); !slices.Equal(got, c.want) {
			t.Errorf("%d: %d, not %d", c.in, got, c.want)
		}
	}
	if got := proof.Sort(); len(got) != 0 {
		t.Error(got)
	}
	if got := proof.Sort(9, 4, 9, 0); !slices.Equal(got, []uint64{0, 4, 9}) {
		t.Error(got)
	}
	rnd := rand.New(rand.NewSource(3))
	for range 200 {
		in := make([]uint64, rnd.Intn(600))
		numbers := map[uint64]bool{}
		for i := range in {
			in[i] = rnd.Uint64() >> rnd.Intn(64)
			numbers[in[i]] = true
		}
		got := proof.Sort(in...)
		for i, n := range got {
			if !numbers[n] || i > 0 && n <= got[i-1] {
				t.Fatalf("%d: %d", in, got)
			}
		}
		if len(got) != len(numbers) {
			t.Fatalf("%d: %d numbers, not %d", in, len(got), len(numbers))
		}
	}
}

// TestMake is P10.1: the proof's hashes are one by one, in their order, those of the tree's nodes that the chapter's procedure reaches, and Count is their number.
func TestMake(t *testing.T) {
	rnd := rand.New(rand.NewSource(4))
	for _, height := range heights() {
		for _, indices := range someLists(rnd, height) {
			spots := reached(spot{height, 0}, indices)
			if n, err := proof.Count(height, indices); err != nil || n != len(spots) {
				t.Fatalf("height %d, indices %d: %d hashes (%v), not %d", height, indices, n, err, len(spots))
			}
			for _, tr := range someTrees(t, rnd, height, indices) {
				beside, err := proof.Make(tr, indices)
				if err != nil || len(beside) != len(spots) {
					t.Fatalf("height %d, indices %d: %d hashes (%v), not %d", height, indices, len(beside), err, len(spots))
				}
				for i, s := range spots {
					if want := mustNode(t, tr, s); beside[i] != want {
						t.Fatalf("height %d, indices %d, hash %d, %v: %x, not %x", height, indices, i, s, beside[i], want)
					}
				}
			}
		}
	}
}

// TestMakeKnown is P10.1: proofs written out by hand of a tree of height 3 with leaves at 0, 1, 3, 4 and 6, with hashes that were made by Python's hashlib.
func TestMakeKnown(t *testing.T) {
	tr := mustTree(t, rand.New(rand.NewSource(5)), 3)
	for _, index := range []uint64{0, 1, 3, 4, 6} {
		if err := tr.Set(index, known(index)); err != nil {
			t.Fatal(err)
		}
	}
	nothing := hash(t, "6e340b9cffb37a989ca544e6bb780a2c78901d3fb33738768511a30617afa01d")
	over01 := hash(t, "22a3049ba4417ea398271a5a40edc561eb7d2a7aa93c49c704310a84593aef51")
	over23 := hash(t, "f39b25dfce8815815aab109114340723c90291cc5761eefd4374f5ef0d5da401")
	over45 := hash(t, "31923d966a3aed0423793dac0ed43175b0804d0820b30ef33b61764b1a754629")
	over67 := hash(t, "d05f196f7cc8cd7d562234e5fbe18e9f4557a1d212cfc05518b290b25a74ac8e")
	over03 := hash(t, "b197cf840d7e91a739c0051f288c299de5a1c575313712778db5da1cbd16afb3")
	over47 := hash(t, "e4b5faa64f5e400bfd211625e3346c3ec356cba678aa23cafb12e9d596a7d9ec")
	root := hash(t, "d7e1dd1ef5c1c6c537a68be17e7fbc3e0ded9664a5140a8cdb46fe49b5df2209")
	for _, c := range []struct {
		indices        []uint64
		leaves, beside []api.Hash
	}{
		{[]uint64{1, 4}, []api.Hash{known(1), known(4)}, []api.Hash{known(0), over23, nothing, over67}},
		{[]uint64{0}, []api.Hash{known(0)}, []api.Hash{known(1), over23, over47}},
		{[]uint64{7}, []api.Hash{nothing}, []api.Hash{over03, over45, known(6)}},
		{[]uint64{2, 3}, []api.Hash{nothing, known(3)}, []api.Hash{over01, over47}},
		{[]uint64{3, 4}, []api.Hash{known(3), known(4)}, []api.Hash{over01, nothing, nothing, over67}},
		{[]uint64{0, 1, 2, 3}, []api.Hash{known(0), known(1), nothing, known(3)}, []api.Hash{over47}},
		{[]uint64{5, 6, 7}, []api.Hash{nothing, known(6), nothing}, []api.Hash{over03, known(4)}},
		{[]uint64{0, 2, 4, 6}, []api.Hash{known(0), nothing, known(4), known(6)}, []api.Hash{known(1), known(3), nothing, nothing}},
		{run(0, 8), []api.Hash{known(0), known(1), nothing, known(3), known(4), nothing, known(6), nothing}, nil},
	} {
		leaves, beside := mustMake(t, tr, c.indices)
		if !slices.Equal(leaves, c.leaves) || !slices.Equal(beside, c.beside) {
			t.Errorf("indices %d: leaves %x, proof %x", c.indices, leaves, beside)
		}
		if n, err := proof.Count(3, c.indices); err != nil || n != len(c.beside) {
			t.Errorf("indices %d: Count %d, %v", c.indices, n, err)
		}
		if got := mustRoot(t, 3, c.indices, c.leaves, c.beside); got != root {
			t.Errorf("indices %d: root %x", c.indices, got)
		}
	}
}

// known is the leaf at an index in the tests with known hashes.
func known(index uint64) api.Hash {
	var h api.Hash
	for i := range h {
		h[i] = byte(index + 1)
	}
	return h
}

// TestAllLeaves is P10.1: the proof of all leaves of a tree has no hashes, be they present or not, nor has that of the only leaf of a tree of height 0, which is the root.
func TestAllLeaves(t *testing.T) {
	rnd := rand.New(rand.NewSource(6))
	for height := range 9 {
		indices := run(0, 1<<height)
		if n, err := proof.Count(height, indices); n != 0 || err != nil {
			t.Errorf("height %d: %d, %v", height, n, err)
		}
		for _, tr := range someTrees(t, rnd, height, indices) {
			leaves, beside := mustMake(t, tr, indices)
			if len(beside) != 0 || len(leaves) != 1<<height {
				t.Errorf("height %d: %x and %x", height, leaves, beside)
			}
			if got := mustRoot(t, height, indices, leaves, nil); got != tr.Root() {
				t.Errorf("height %d: root %x", height, got)
			}
		}
	}
	leaf := randomHash(rnd)
	if got := mustRoot(t, 0, []uint64{0}, []api.Hash{leaf}, nil); got != leaf {
		t.Errorf("height 0: root %x, not %x", got, leaf)
	}
	if texts := mustTexts(t, 0, []uint64{0}, []api.Hash{leaf}, nil); len(texts) != 0 {
		t.Errorf("height 0: texts %x", texts)
	}
}

// TestOneIndex is P10.1: the proof of one index has a hash for each level below the height, the path's of layer 9: first those on its left, from the top, then those on its right, from the bottom.
func TestOneIndex(t *testing.T) {
	rnd := rand.New(rand.NewSource(7))
	for _, height := range heights() {
		for _, index := range []uint64{0, 1<<height - 1, rnd.Uint64() & (1<<height - 1), 1 << height / 2} {
			tr := mustTree(t, rnd, height, index, index^1&(1<<height-1), 1<<height-1-index)
			path, err := tr.Path(index)
			if err != nil {
				t.Fatal(err)
			}
			var left, right []api.Hash
			for level, h := range path {
				if index>>level&1 == 1 {
					left = append([]api.Hash{h}, left...)
				} else {
					right = append(right, h)
				}
			}
			leaves, beside := mustMake(t, tr, []uint64{index})
			if n, err := proof.Count(height, []uint64{index}); n != height || err != nil {
				t.Errorf("height %d, index %d: Count %d, %v", height, index, n, err)
			}
			if !slices.Equal(beside, append(left, right...)) || len(leaves) != 1 || leaves[0] != mustNode(t, tr, spot{0, index}) {
				t.Errorf("height %d, index %d: %x and %x", height, index, leaves, beside)
			}
		}
	}
}

// TestLeaves is P10.1: the leaves at indices that are present, and the empty hash at those that aren't, in the order of the indices.
func TestLeaves(t *testing.T) {
	rnd := rand.New(rand.NewSource(8))
	empty := node.Empties()[0]
	for _, height := range heights() {
		for _, indices := range someLists(rnd, height) {
			x := map[uint64]api.Hash{}
			tr := mustTree(t, rnd, height)
			for _, index := range indices {
				if rnd.Intn(2) == 0 {
					x[index] = randomHash(rnd)
					if err := tr.Set(index, x[index]); err != nil {
						t.Fatal(err)
					}
				}
			}
			leaves, err := proof.Leaves(tr, indices)
			if err != nil || len(leaves) != len(indices) {
				t.Fatalf("height %d, indices %d: %d leaves, %v", height, indices, len(leaves), err)
			}
			for i, index := range indices {
				want, is := x[index]
				if !is {
					want = empty
				}
				if leaves[i] != want {
					t.Fatalf("height %d, index %d: %x, not %x", height, index, leaves[i], want)
				}
			}
		}
	}
}

// TestCountOfAllLists is P10.1: Count of every list of indices for the heights 0 to 4, and of some for all others.
func TestCountOfAllLists(t *testing.T) {
	for height := range 4 {
		for set := 1; set < 1<<(1<<height); set++ {
			counts(t, height, members(set))
		}
	}
	for set := 1; set < 1<<16; set += 37 {
		counts(t, 4, members(set))
	}
	rnd := rand.New(rand.NewSource(9))
	for height := 5; height <= 32; height++ {
		for _, indices := range someLists(rnd, height) {
			counts(t, height, indices)
		}
	}
}

// members is the numbers of the bits that are set.
func members(set int) []uint64 {
	var out []uint64
	for i := range uint64(16) {
		if set>>i&1 == 1 {
			out = append(out, i)
		}
	}
	return out
}

// counts fails if Count isn't the number of hashes that the definition reaches.
func counts(t *testing.T, height int, indices []uint64) {
	t.Helper()
	want := len(reached(spot{height, 0}, indices))
	if n, err := proof.Count(height, indices); n != want || err != nil {
		t.Fatalf("height %d, indices %d: %d (%v), not %d", height, indices, n, err, want)
	}
}
