package tree_test

import (
	"maps"
	"math/rand"
	"slices"
	"testing"

	"entrust/api"
	"entrust/tree"
)

// climbed is the root that a leaf and its path yield, joined by layer 8 level by level.
func climbed(t *testing.T, index uint64, leaf api.Hash, path []api.Hash) api.Hash {
	t.Helper()
	for level, beside := range path {
		if index>>level&1 == 0 {
			leaf = join(t, level+1, leaf, beside)
		} else {
			leaf = join(t, level+1, beside, leaf)
		}
	}
	return leaf
}

// TestPathsYieldTheRoot is P9.2: each leaf, present or not, and its path yield the root.
func TestPathsYieldTheRoot(t *testing.T) {
	rnd := rand.New(rand.NewSource(6))
	for height := 0; height <= 32; height++ {
		for _, x := range someLeaves(rnd, height) {
			tr := treeOf(t, height, x)
			for i, index := range probes(height, x) {
				if height > 6 && i%5 != 0 {
					continue
				}
				leaf, err1 := tr.Leaf(index)
				path, err2 := tr.Path(index)
				if err1 != nil || err2 != nil || len(path) != height {
					t.Fatalf("height %d, index %d: %v, %x and %v", height, index, err1, path, err2)
				}
				if got := climbed(t, index, leaf, path); got != tr.Root() {
					t.Fatalf("height %d, index %d: %x, not the root %x", height, index, got, tr.Root())
				}
			}
		}
	}
}

// TestPathLeadsToTheNextRoot is P9.2: a path doesn't have the leaf itself in it, so with another leaf it yields the root that the tree has once that one is set.
func TestPathLeadsToTheNextRoot(t *testing.T) {
	rnd := rand.New(rand.NewSource(7))
	for _, height := range []int{0, 1, 2, 5, 31, 32} {
		tr := mustNew(t, height)
		for range 50 {
			index, leaf := rnd.Uint64()&(1<<height-1), randomHash(rnd)
			if rnd.Intn(4) == 0 {
				leaf = empty(t, 0)
			}
			before, err := tr.Path(index)
			if err != nil {
				t.Fatal(err)
			}
			want := climbed(t, index, leaf, before)
			mustSet(t, tr, index, leaf)
			after, err := tr.Path(index)
			if err != nil || tr.Root() != want || !slices.Equal(before, after) {
				t.Fatalf("height %d, index %d: root %x, not %x; path %x, before %x, %v", height, index, tr.Root(), want, after, before, err)
			}
		}
	}
}

// TestOrder is P9.2: leaves that are set in any order make the same tree.
func TestOrder(t *testing.T) {
	rnd := rand.New(rand.NewSource(8))
	for _, height := range []int{1, 2, 3, 6, 31, 32} {
		for _, x := range someLeaves(rnd, height) {
			sorted := slices.Sorted(maps.Keys(x))
			want := treeOf(t, height, x).Root()
			for range 5 {
				tr := mustNew(t, height)
				for _, i := range rnd.Perm(len(sorted)) {
					mustSet(t, tr, sorted[i], x[sorted[i]])
				}
				if tr.Root() != want {
					t.Fatalf("height %d, leaves %x: %x, not %x", height, x, tr.Root(), want)
				}
				isTree(t, tr, height, x)
			}
			tr := mustNew(t, height)
			for _, index := range slices.Backward(sorted) {
				mustSet(t, tr, index, x[index])
			}
			isTree(t, tr, height, x)
		}
	}
}

// TestDetours is P9.2: leaves that are set twice, to the same and to others, and such as are dropped again, with others between, leave the tree of those that are set last.
func TestDetours(t *testing.T) {
	rnd := rand.New(rand.NewSource(9))
	for _, height := range []int{0, 1, 2, 3, 6, 31, 32} {
		for _, x := range someLeaves(rnd, height) {
			tr, sorted := mustNew(t, height), slices.Sorted(maps.Keys(x))
			others := append(probes(height, x), sorted...)
			for _, i := range rnd.Perm(len(others)) {
				mustSet(t, tr, others[i], randomHash(rnd))
			}
			for _, i := range rnd.Perm(len(others)) {
				mustDrop(t, tr, others[i])
			}
			isTree(t, tr, height, leaves{})
			for _, i := range rnd.Perm(len(sorted)) {
				mustSet(t, tr, sorted[i], randomHash(rnd))
			}
			for _, i := range rnd.Perm(len(sorted)) {
				mustSet(t, tr, sorted[i], x[sorted[i]])
				mustSet(t, tr, sorted[i], x[sorted[i]])
			}
			isTree(t, tr, height, x)
			for _, i := range rnd.Perm(len(sorted)) {
				mustDrop(t, tr, sorted[i])
				mustSet(t, tr, sorted[i], x[sorted[i]])
			}
			isTree(t, tr, height, x)
		}
	}
}

// lived is a tree, and the leaves that it should have.
type lived struct {
	tr     *tree.Tree
	height int
	x      leaves
}

// change does one of the calls that make or change trees, with leaves that should be there, and now and then one that is refused.
func (l lived) change(t *testing.T, rnd *rand.Rand) lived {
	t.Helper()
	index := rnd.Uint64() & (1<<l.height - 1)
	if sorted := slices.Sorted(maps.Keys(l.x)); len(sorted) > 0 && rnd.Intn(2) == 0 {
		index = sorted[rnd.Intn(len(sorted))]
	}
	switch rnd.Intn(12) {
	case 0, 1, 2, 3:
		l.x[index] = randomHash(rnd)
		mustSet(t, l.tr, index, l.x[index])
	case 4:
		delete(l.x, index)
		mustSet(t, l.tr, index, empty(t, 0))
	case 5, 6:
		delete(l.x, index)
		mustDrop(t, l.tr, index)
	case 7:
		if err := l.tr.Set(index+1<<l.height, randomHash(rnd)); err != api.ErrRange {
			t.Fatal(err)
		}
	case 8:
		if out, err := l.tr.Resize([]uint64{0, 1<<32 + 1}[rnd.Intn(2)]); err != api.ErrRange || out != nil {
			t.Fatal(out, err)
		}
	case 9:
		return lived{l.tr.Copy(), l.height, maps.Clone(l.x)}
	default:
		blocks := 1 + rnd.Uint64()>>rnd.Intn(32)>>32
		if rnd.Intn(2) == 0 {
			blocks = index + 1
		}
		return resized(t, l, blocks)
	}
	return l
}

// TestAnyOrder is P9.1: many calls in any order, each tree of those that copies and other sizes leave behind being what it should be all along.
func TestAnyOrder(t *testing.T) {
	rnd := rand.New(rand.NewSource(10))
	for round := range 60 {
		height := []int{0, 1, 2, 3, 5, 31, 32}[round%7]
		all := []lived{{mustNew(t, height), height, leaves{}}}
		for step := range 60 {
			old := rnd.Intn(len(all))
			next := all[old].change(t, rnd)
			isTree(t, next.tr, next.height, next.x)
			if next.tr != all[old].tr {
				all = append(all, next)
			}
			if step%20 == 19 {
				for _, l := range all {
					isTree(t, l.tr, l.height, l.x)
				}
			}
		}
	}
}
