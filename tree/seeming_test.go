package tree

import (
	"maps"
	"math/rand"
	"slices"
	"testing"

	"entrust/api"
	"entrust/node"
)

// seeming returns a tree without leaves in which a hash is the empty one of a level. Nobody knows leaves from which an empty hash is joined; so here the empty hash is made to fit the leaves.
func seeming(t *testing.T, height, level int, empty api.Hash) *Tree {
	t.Helper()
	tr, err := New(height)
	if err != nil {
		t.Fatal(err)
	}
	tr.empties[level] = empty
	return tr
}

// put sets leaves in the order of the indices.
func put(t *testing.T, tr *Tree, x map[uint64]api.Hash, order []uint64) {
	t.Helper()
	for _, index := range order {
		if err := tr.Set(index, x[index]); err != nil {
			t.Fatal(err)
		}
	}
}

// presents fails if a tree doesn't have these leaves, by Len, Leaf and All, the last in order.
func presents(t *testing.T, tr *Tree, x map[uint64]api.Hash) {
	t.Helper()
	var got []uint64
	for index, leaf := range tr.All() {
		if leaf != x[index] {
			t.Fatalf("index %d: %x, not %x", index, leaf, x[index])
		}
		got = append(got, index)
	}
	want := slices.Sorted(maps.Keys(x))
	if !slices.Equal(got, want) || tr.Len() != len(want) {
		t.Fatalf("height %d: All %d, Len %d, not %d", tr.Height(), got, tr.Len(), want)
	}
	for index, leaf := range x {
		if h, err := tr.Leaf(index); err != nil || h != leaf {
			t.Fatalf("index %d: %x (%v), not %x", index, h, err, leaf)
		}
	}
}

// TestAllBelowAnEmptyRoot is P9.1: two leaves from which the empty hash of height 1 is joined are present all the same, so All yields both, and of each that remains when the other one is dropped.
func TestAllBelowAnEmptyRoot(t *testing.T) {
	a, b := api.Hash{1}, api.Hash{2}
	root, err := node.Join(1, a, b)
	if err != nil {
		t.Fatal(err)
	}
	x := map[uint64]api.Hash{0: a, 1: b}
	for _, order := range [][]uint64{{0, 1}, {1, 0}} {
		tr := seeming(t, 1, 1, root)
		put(t, tr, x, order)
		if tr.Root() != root {
			t.Fatalf("%x", tr.Root())
		}
		presents(t, tr, x)
		if err := tr.Drop(order[0]); err != nil {
			t.Fatal(err)
		}
		presents(t, tr, map[uint64]api.Hash{order[1]: x[order[1]]})
		put(t, tr, x, order[:1])
		presents(t, tr, x)
	}
}

// TestAllBelowEmptyNodes is P9.1: whether All yields a leaf doesn't hang on the hashes above it, which may be the empty ones of their levels: in a tree, in its copy, in one of another size, and when leaves were dropped and set again.
func TestAllBelowEmptyNodes(t *testing.T) {
	rnd := rand.New(rand.NewSource(29))
	for _, height := range []int{1, 2, 3, 5, 31, 32} {
		x := map[uint64]api.Hash{}
		for range 12 {
			x[rnd.Uint64()&(1<<height-1)] = api.Hash{1, byte(rnd.Intn(256))}
			x[rnd.Uint64()&(1<<height-1)&7] = api.Hash{2, byte(rnd.Intn(256))}
		}
		order := slices.Sorted(maps.Keys(x))
		plain := seeming(t, height, 0, node.Empties()[0])
		put(t, plain, x, order)
		for level := 1; level <= height; level++ {
			index := order[rnd.Intn(len(order))]
			tr := seeming(t, height, level, plain.levels[level][index>>level])
			rnd.Shuffle(len(order), func(i, j int) { order[i], order[j] = order[j], order[i] })
			put(t, tr, x, order)
			if h, err := tr.Node(level, index>>level); err != nil || h != tr.empties[level] {
				t.Fatalf("height %d, level %d: %x (%v)", height, level, h, err)
			}
			presents(t, tr, x)
			presents(t, tr.Copy(), x)
			resized(t, tr, x)
			if err := tr.Drop(index); err != nil {
				t.Fatal(err)
			}
			remain := maps.Clone(x)
			delete(remain, index)
			presents(t, tr, remain)
			put(t, tr, x, []uint64{index})
			presents(t, tr, x)
		}
	}
}

// resized fails if a tree of another size doesn't have those of the leaves that are within it.
func resized(t *testing.T, tr *Tree, x map[uint64]api.Hash) {
	t.Helper()
	for _, blocks := range []uint64{1, 2, 3, 8, 1 << 16, 1<<31 + 1, 1 << 32} {
		out, err := tr.Resize(blocks)
		if err != nil {
			t.Fatal(err)
		}
		within := maps.Clone(x)
		maps.DeleteFunc(within, func(index uint64, _ api.Hash) bool { return index >= blocks })
		presents(t, out, within)
	}
}
