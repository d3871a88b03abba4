package tree_test

import (
	"encoding/hex"
	"maps"
	"math"
	"math/rand"
	"slices"
	"testing"

	"entrust/api"
	"entrust/node"
	"entrust/tree"
)

// leaves are a tree's leaves by their indices, as the chapter has them: what isn't in it is the empty hash.
type leaves map[uint64]api.Hash

// spot is where a node is.
type spot struct {
	level int
	place uint64
}

// definition is the nodes as the chapter defines them, joined by layer 8, with those that were joined before.
type definition struct {
	t       *testing.T
	leaves  leaves
	empties [33]api.Hash
	joined  map[spot]api.Hash
}

func define(t *testing.T, x leaves) definition {
	return definition{t, x, node.Empties(), map[spot]api.Hash{}}
}

// node is a node. Where there are no leaves below it, it is layer 8's empty hash: a tree of height 32 can't be joined leaf by leaf. TestEveryNode does without.
func (d definition) node(level int, place uint64) api.Hash {
	d.t.Helper()
	at := spot{level, place}
	if h, is := d.joined[at]; is {
		return h
	}
	below := false
	for index := range d.leaves {
		below = below || index>>level == place
	}
	switch {
	case !below:
		d.joined[at] = d.empties[level]
	case level == 0:
		d.joined[at] = d.leaves[place]
	default:
		d.joined[at] = join(d.t, level, d.node(level-1, 2*place), d.node(level-1, 2*place+1))
	}
	return d.joined[at]
}

// empty is layer 8's empty hash.
func empty(t *testing.T, height int) api.Hash {
	t.Helper()
	h, err := node.Empty(height)
	if err != nil {
		t.Fatal(err)
	}
	return h
}

// join is layer 8's Join.
func join(t *testing.T, height int, left, right api.Hash) api.Hash {
	t.Helper()
	h, err := node.Join(height, left, right)
	if err != nil {
		t.Fatal(err)
	}
	return h
}

// leafOf is an index's leaf in the tests that need but one.
func leafOf(index uint64) api.Hash {
	var h api.Hash
	for i := range h {
		h[i] = byte(int(index)*7 + i)
	}
	return h
}

// leavesOf are the leaves leafOf of these indices.
func leavesOf(indices ...uint64) leaves {
	x := leaves{}
	for _, index := range indices {
		x[index] = leafOf(index)
	}
	return x
}

// randomHash is any hash.
func randomHash(rnd *rand.Rand) api.Hash {
	var h api.Hash
	rnd.Read(h[:])
	return h
}

// hash is the hash that is written in hexadecimal digits.
func hash(t *testing.T, s string) api.Hash {
	t.Helper()
	b, err := hex.DecodeString(s)
	if err != nil || len(b) != len(api.Hash{}) {
		t.Fatal(s, err)
	}
	return api.Hash(b)
}

// mustNew is a tree without leaves.
func mustNew(t *testing.T, height int) *tree.Tree {
	t.Helper()
	tr, err := tree.New(height)
	if err != nil || tr == nil {
		t.Fatalf("height %d: %v and %v", height, tr, err)
	}
	return tr
}

// mustSet sets a leaf.
func mustSet(t *testing.T, tr *tree.Tree, index uint64, leaf api.Hash) {
	t.Helper()
	if err := tr.Set(index, leaf); err != nil {
		t.Fatalf("height %d, index %d: %v", tr.Height(), index, err)
	}
}

// mustDrop removes a leaf.
func mustDrop(t *testing.T, tr *tree.Tree, index uint64) {
	t.Helper()
	if err := tr.Drop(index); err != nil {
		t.Fatalf("height %d, index %d: %v", tr.Height(), index, err)
	}
}

// treeOf is a tree of these leaves.
func treeOf(t *testing.T, height int, x leaves) *tree.Tree {
	t.Helper()
	tr := mustNew(t, height)
	for _, index := range slices.Sorted(maps.Keys(x)) {
		mustSet(t, tr, index, x[index])
	}
	return tr
}

// probes are indices of a tree of that height: all of them if there are few, otherwise those at the edges, and those beside each leaf.
func probes(height int, x leaves) []uint64 {
	var out []uint64
	if height <= 6 {
		for index := range uint64(1) << height {
			out = append(out, index)
		}
		return out
	}
	last := uint64(1)<<height - 1
	out = append(out, 0, 1, 2, 3, last/2, last/2+1, last-1, last)
	for index := range x {
		out = append(out, index, index^1, index^2, index^(1<<(height-1)))
	}
	slices.Sort(out)
	return slices.Compact(out)
}

// isTree fails if a tree, in anything that it answers, isn't the one of that height with these leaves.
func isTree(t *testing.T, tr *tree.Tree, height int, x leaves) {
	t.Helper()
	d := define(t, x)
	if tr == nil || tr.Height() != height || tr.Len() != len(x) {
		t.Fatalf("height %d with %d leaves, not %d with %d", tr.Height(), tr.Len(), height, len(x))
	}
	if got, want := tr.Root(), d.node(height, 0); got != want {
		t.Fatalf("height %d, leaves %x: root %x, not %x", height, x, got, want)
	}
	yields(t, tr, x)
	for _, index := range probes(height, x) {
		if got, err := tr.Leaf(index); err != nil || got != d.node(0, index) {
			t.Fatalf("height %d, index %d: %x and %v, not %x", height, index, got, err, d.node(0, index))
		}
		path, err := tr.Path(index)
		if err != nil || len(path) != height {
			t.Fatalf("height %d, index %d: %x and %v", height, index, path, err)
		}
		for level := range height + 1 {
			place := index >> level
			if got, err := tr.Node(level, place); err != nil || got != d.node(level, place) {
				t.Fatalf("height %d, level %d, place %d: %x and %v, not %x", height, level, place, got, err, d.node(level, place))
			}
			if level < height && path[level] != d.node(level, place^1) {
				t.Fatalf("height %d, index %d, level %d: %x in the path, not %x", height, index, level, path[level], d.node(level, place^1))
			}
		}
	}
}

// someLeaves are leaves of trees of a height: none, each one at an edge alone, some, and all or many.
func someLeaves(rnd *rand.Rand, height int) []leaves {
	last := uint64(1)<<height - 1
	out := []leaves{{}}
	for _, index := range []uint64{0, 1, last / 2, last/2 + 1, last} {
		if index <= last {
			out = append(out, leaves{index: randomHash(rnd)})
		}
	}
	out = append(out, leaves{0: randomHash(rnd), last: randomHash(rnd)})
	some, many := leaves{}, leaves{}
	for i := range min(last+1, 64) {
		index := i
		if last >= 64 {
			index = rnd.Uint64() & last
		}
		if i%3 != 1 {
			some[index] = randomHash(rnd)
		}
		many[index] = randomHash(rnd)
	}
	return append(out, some, many)
}

// TestNew is P9.1: trees of each height there is have no leaves, and the empty hash as their root.
func TestNew(t *testing.T) {
	for height := 0; height <= 32; height++ {
		tr := mustNew(t, height)
		if tr.Height() != height || tr.Len() != 0 || tr.Root() != empty(t, height) {
			t.Errorf("height %d: height %d, %d leaves, root %x", height, tr.Height(), tr.Len(), tr.Root())
		}
		isTree(t, tr, height, leaves{})
	}
}

// TestNoSuchHeight is P9.1: a height that isn't between 0 and 32 is ErrRange, and no tree.
func TestNoSuchHeight(t *testing.T) {
	for _, height := range []int{33, 34, 64, 255, 256, 1 << 31, 1 << 32, 1<<32 + 1, math.MaxInt - 1, math.MaxInt, -1, -2, -32, -256, -1 << 32, math.MinInt + 1, math.MinInt} {
		if tr, err := tree.New(height); err != api.ErrRange || tr != nil {
			t.Errorf("height %d: %v and %v", height, tr, err)
		}
	}
}

// TestHeightZero is P9.1: the root of a tree of height 0 is its leaf; its path has no hashes.
func TestHeightZero(t *testing.T) {
	tr := mustNew(t, 0)
	if tr.Root() != empty(t, 0) {
		t.Errorf("%x", tr.Root())
	}
	for _, h := range []api.Hash{leafOf(1), {}, empty(t, 1), leafOf(2), empty(t, 0), leafOf(3)} {
		mustSet(t, tr, 0, h)
		leaf, err1 := tr.Leaf(0)
		top, err2 := tr.Node(0, 0)
		path, err3 := tr.Path(0)
		if tr.Root() != h || leaf != h || top != h || len(path) != 0 || err1 != nil || err2 != nil || err3 != nil {
			t.Errorf("%x: root %x, leaf %x, node %x, path %x, %v, %v, %v", h, tr.Root(), leaf, top, path, err1, err2, err3)
		}
	}
	if err := tr.Set(1, leafOf(1)); err != api.ErrRange {
		t.Error(err)
	}
	mustDrop(t, tr, 0)
	isTree(t, tr, 0, leaves{})
}

// TestEveryNode is P9.1: in trees of up to 64 leaves, each node is what the definition says word for word: the leaf or the empty hash in level 0, joined from there on level by level.
func TestEveryNode(t *testing.T) {
	rnd := rand.New(rand.NewSource(1))
	for height := 0; height <= 6; height++ {
		for _, x := range someLeaves(rnd, height) {
			tr := treeOf(t, height, x)
			nodes := make([]api.Hash, 1<<height)
			for index := range nodes {
				nodes[index] = empty(t, 0)
				if h, is := x[uint64(index)]; is {
					nodes[index] = h
				}
			}
			for level := range height + 1 {
				if level > 0 {
					for place := range len(nodes) / 2 {
						nodes[place] = join(t, level, nodes[2*place], nodes[2*place+1])
					}
					nodes = nodes[:len(nodes)/2]
				}
				for place, want := range nodes {
					if got, err := tr.Node(level, uint64(place)); err != nil || got != want {
						t.Fatalf("height %d, level %d, place %d: %x and %v, not %x", height, level, place, got, err, want)
					}
				}
			}
			if len(nodes) != 1 || tr.Root() != nodes[0] {
				t.Fatalf("height %d: root %x, not %x", height, tr.Root(), nodes)
			}
		}
	}
}

// TestTrees is P9.1: trees of every height, without leaves, with one, with some and with all or many, in everything that they answer.
func TestTrees(t *testing.T) {
	rnd := rand.New(rand.NewSource(2))
	for height := 0; height <= 32; height++ {
		for _, x := range someLeaves(rnd, height) {
			isTree(t, treeOf(t, height, x), height, x)
		}
	}
}

// TestKnownRoots is P9.1: roots that another program (Python's hashlib) made.
func TestKnownRoots(t *testing.T) {
	for _, c := range []struct {
		height  int
		indices []uint64
		want    string
	}{
		{0, nil, "6e340b9cffb37a989ca544e6bb780a2c78901d3fb33738768511a30617afa01d"},
		{0, []uint64{0}, "000102030405060708090a0b0c0d0e0f101112131415161718191a1b1c1d1e1f"},
		{1, nil, "49e3c52b8a46692e9027fc5e631c8caca894b1a7ad0c15798a72efa85e3610be"},
		{1, []uint64{0}, "e455f297ee914229a4bf81c859f238563f06a5ae9983dfd0c2c5c80dacbe40ae"},
		{1, []uint64{1}, "a70302eeeb9ca14b7341239134d4ef5b7b921edee033c8d89457023bdb628889"},
		{1, []uint64{0, 1}, "c9f79ca2478783de15d6fd90a3485b0a097924e0eadcad4d44cc052ec0364cbf"},
		{2, nil, "44689225da3ca899d150a068c724f94dd63a9363211aa0b9d99d8fcfa89f2594"},
		{2, []uint64{1, 2}, "f0c3fbea79d6d4671ecc43a4dc0f9859d67296324da8c0b9a3da45ce0280cde3"},
		{3, []uint64{0, 1, 2, 3, 4, 5, 6, 7}, "e6ba0a502614692e432322ed4d268ebb9a2a3daf5117f1d0324e9ce463d1bfad"},
		{3, []uint64{0, 3, 4, 6}, "7d165ec0859cbda0be664c54227c0e30af22450a112e1a4fe342fdc5ac83035b"},
		{5, []uint64{0, 3, 6, 9, 12, 15, 18, 21, 24, 27, 30}, "c6522b59aed80076b98fd49cdc1aa0bec010710bb4258fadd52866f0390579e4"},
		{31, []uint64{0, 1<<31 - 1}, "5a62983896a5176e3fa4166fb8aaa1eddfc6ecf8731300dd733bf1b5b5f49d5b"},
		{32, nil, "186c2d9d56e05d2fe355f79faf742b089bc5cb5a1e1b43c8e2046e3484316a9b"},
		{32, []uint64{0}, "5be87a81bcbb01b250672c84ad8138f793a46bf8f9ce264387cd910f20a3ca63"},
		{32, []uint64{1<<32 - 1}, "6be19d11a5f04c1f5c3a7a85e8324c0eff0ba8bcb29b6d1a5d52517348be2102"},
		{32, []uint64{0, 5, 65536, 1 << 31, 1<<32 - 1}, "59f548687a4de8ce4fcb2f7b193097b93fa09b0622914be4995ee327d1cd78ff"},
	} {
		if got := treeOf(t, c.height, leavesOf(c.indices...)).Root(); got != hash(t, c.want) {
			t.Errorf("height %d, indices %d: %x, not %s", c.height, c.indices, got, c.want)
		}
	}
}

// TestNoSuchIndex is P9.1: the last index of a tree is one, and those behind it are ErrRange, for Set, Drop, Leaf and Path, with zeros or nothing, and change nothing.
func TestNoSuchIndex(t *testing.T) {
	for height := 0; height <= 32; height++ {
		last := uint64(1)<<height - 1
		tr := mustNew(t, height)
		for _, index := range []uint64{0, last} {
			mustSet(t, tr, index, leafOf(index))
		}
		x := leavesOf(0, last)
		for _, index := range []uint64{last + 1, last + 2, 2*last + 2, 1<<32 - 1, 1 << 32, 1<<32 + 1, 1 << 33, math.MaxInt64, 1 << 63, math.MaxUint64 - 1, math.MaxUint64} {
			if index <= last {
				continue
			}
			leaf, err3 := tr.Leaf(index)
			path, err4 := tr.Path(index)
			if err1, err2 := tr.Set(index, leafOf(9)), tr.Drop(index); err1 != api.ErrRange || err2 != api.ErrRange || err3 != api.ErrRange || err4 != api.ErrRange || leaf != (api.Hash{}) || len(path) != 0 {
				t.Errorf("height %d, index %d: %v, %v, %x and %v, %x and %v", height, index, err1, err2, leaf, err3, path, err4)
			}
			if err := tr.Set(index, empty(t, 0)); err != api.ErrRange {
				t.Errorf("height %d, index %d: %v", height, index, err)
			}
		}
		isTree(t, tr, height, x)
		mustDrop(t, tr, last)
		delete(x, last)
		isTree(t, tr, height, x)
	}
}

// TestNoSuchNode is P9.1: levels 0 to the height have nodes, up to the last place of each; any other level or place is ErrRange and zeros.
func TestNoSuchNode(t *testing.T) {
	for height := 0; height <= 32; height++ {
		x := leavesOf(0, 1<<height-1)
		tr, d := treeOf(t, height, x), define(t, x)
		bad := []spot{{-1, 0}, {-2, 0}, {-height - 1, 0}, {height + 1, 0}, {height + 2, 0}, {height + 32, 0}, {height + 64, 0}, {math.MaxInt, 0}, {math.MinInt, 0}, {1 << 32, 0}, {-1 << 32, 0}, {-1, 1}, {height + 1, 1}, {-1, math.MaxUint64}, {math.MinInt, math.MaxUint64}}
		for level := range height + 1 {
			last := uint64(1)<<(height-level) - 1
			for _, place := range []uint64{0, last} {
				if got, err := tr.Node(level, place); err != nil || got != d.node(level, place) {
					t.Errorf("height %d, level %d, place %d: %x and %v, not %x", height, level, place, got, err, d.node(level, place))
				}
			}
			for _, place := range []uint64{last + 1, last + 2, 2*last + 2, 1 << 32, 1 << 63, math.MaxUint64} {
				bad = append(bad, spot{level, place})
			}
		}
		for _, at := range bad {
			if got, err := tr.Node(at.level, at.place); err != api.ErrRange || got != (api.Hash{}) {
				t.Errorf("height %d, level %d, place %d: %x and %v", height, at.level, at.place, got, err)
			}
		}
	}
}

// TestEmptyLeaf is P9.1: a leaf that is set to the empty hash of height 0 isn't present, also where there was one; any other hash is, though it be zeros, or the empty hash of another height.
func TestEmptyLeaf(t *testing.T) {
	for _, height := range []int{0, 1, 2, 5, 31, 32} {
		last := uint64(1)<<height - 1
		tr := mustNew(t, height)
		for _, index := range []uint64{0, last} {
			mustSet(t, tr, index, empty(t, 0))
			isTree(t, tr, height, leaves{})
			for _, h := range []api.Hash{{}, empty(t, 1), empty(t, 32), leafOf(1)} {
				mustSet(t, tr, index, h)
				isTree(t, tr, height, leaves{index: h})
				if got, err := tr.Leaf(index); err != nil || got != h || tr.Len() != 1 {
					t.Fatalf("height %d, index %d: %x and %v, %d leaves", height, index, got, err, tr.Len())
				}
			}
			mustSet(t, tr, index, empty(t, 0))
			isTree(t, tr, height, leaves{})
		}
	}
}

// TestDropped is P9.1: a leaf that was never there may be dropped, from a tree without leaves and from others, and one that was dropped, again; nothing else changes.
func TestDropped(t *testing.T) {
	rnd := rand.New(rand.NewSource(3))
	for _, height := range []int{0, 1, 2, 3, 6, 31, 32} {
		tr := mustNew(t, height)
		for _, index := range probes(height, nil) {
			mustDrop(t, tr, index)
		}
		isTree(t, tr, height, leaves{})
		for _, x := range someLeaves(rnd, height) {
			tr := treeOf(t, height, x)
			for _, index := range probes(height, x) {
				if _, is := x[index]; !is {
					mustDrop(t, tr, index)
				}
			}
			isTree(t, tr, height, x)
			for index := range maps.Clone(x) {
				delete(x, index)
				mustDrop(t, tr, index)
				mustDrop(t, tr, index)
				if len(x)%8 == 0 {
					isTree(t, tr, height, x)
				}
			}
			isTree(t, tr, height, leaves{})
		}
	}
}
