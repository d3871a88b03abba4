package tree_test

import (
	"math"
	"math/rand"
	"slices"
	"testing"

	"entrust/api"
	"entrust/tree"
)

// TestNil is P9.1: on a nil tree each call answers ErrNone, zero values, or nothing, whatever its arguments are.
func TestNil(t *testing.T) {
	var tr *tree.Tree
	for _, n := range []uint64{0, 1, 1<<32 - 1, 1 << 32, 1<<32 + 1, math.MaxUint64} {
		for _, h := range []api.Hash{{}, leafOf(1), empty(t, 0)} {
			if err := tr.Set(n, h); err != api.ErrNone {
				t.Errorf("Set %d: %v", n, err)
			}
		}
		if err := tr.Drop(n); err != api.ErrNone {
			t.Errorf("Drop %d: %v", n, err)
		}
		if h, err := tr.Leaf(n); err != api.ErrNone || h != (api.Hash{}) {
			t.Errorf("Leaf %d: %x and %v", n, h, err)
		}
		for _, level := range []int{0, 1, 32, 33, -1, math.MinInt, math.MaxInt} {
			if h, err := tr.Node(level, n); err != api.ErrNone || h != (api.Hash{}) {
				t.Errorf("Node %d, %d: %x and %v", level, n, h, err)
			}
		}
		if path, err := tr.Path(n); err != api.ErrNone || len(path) != 0 {
			t.Errorf("Path %d: %x and %v", n, path, err)
		}
		if out, err := tr.Resize(n); err != api.ErrNone || out != nil {
			t.Errorf("Resize %d: %v and %v", n, out, err)
		}
	}
	if tr.Root() != (api.Hash{}) || tr.Height() != 0 || tr.Len() != 0 || tr.Copy() != nil {
		t.Errorf("%x, %d, %d, %v", tr.Root(), tr.Height(), tr.Len(), tr.Copy())
	}
	for index, leaf := range tr.All() {
		t.Errorf("All: %d, %x", index, leaf)
	}
	if tr != nil {
		t.Error(tr)
	}
}

// TestErrorsChangeNothing is P9.1 with rule 3: behind calls of each kind that return an error, a tree is as it was.
func TestErrorsChangeNothing(t *testing.T) {
	rnd := rand.New(rand.NewSource(15))
	for _, height := range []int{0, 1, 3, 31, 32} {
		for _, x := range someLeaves(rnd, height) {
			tr := treeOf(t, height, x)
			for _, index := range []uint64{1 << height, 1<<height + 1, 1 << 33, math.MaxUint64} {
				_, err1 := tr.Leaf(index)
				_, err2 := tr.Node(0, index)
				_, err3 := tr.Node(height, index)
				_, err4 := tr.Path(index)
				_, err5 := tr.Resize(index<<32 | 1<<33)
				for i, err := range []error{tr.Set(index, randomHash(rnd)), tr.Set(index, empty(t, 0)), tr.Drop(index), err1, err2, err3, err4, err5} {
					if err != api.ErrRange {
						t.Fatalf("height %d, index %d, call %d: %v", height, index, i, err)
					}
				}
				isTree(t, tr, height, x)
			}
		}
	}
}

// TestPathsAreNew is P9.1 with rule 5: who changes a path that was returned, with its spare capacity, changes no other answer, and a path doesn't change with the tree.
func TestPathsAreNew(t *testing.T) {
	rnd := rand.New(rand.NewSource(16))
	for _, height := range []int{1, 2, 5, 32} {
		for _, x := range someLeaves(rnd, height) {
			tr := treeOf(t, height, x)
			for _, index := range []uint64{0, 1, 1<<height - 1} {
				first, err1 := tr.Path(index)
				second, err2 := tr.Path(index)
				want := slices.Clone(first)
				if err1 != nil || err2 != nil || !slices.Equal(second, want) {
					t.Fatal(err1, err2, first, second)
				}
				clear(first[:cap(first)])
				third, err := tr.Path(index)
				if err != nil || !slices.Equal(second, want) || !slices.Equal(third, want) {
					t.Fatalf("height %d, index %d: %x and %x, not %x: %v", height, index, second, third, want, err)
				}
				c := tr.Copy()
				mustSet(t, tr, index^1, randomHash(rnd))
				if !slices.Equal(second, want) {
					t.Fatal("a path changes with the tree")
				}
				tr = c
			}
			isTree(t, tr, height, x)
		}
	}
}

// TestLeavesAreCopies is P9.1 with rule 5: who changes a leaf that was handed in, or a hash that was returned, changes no other answer.
func TestLeavesAreCopies(t *testing.T) {
	for _, height := range []int{0, 1, 32} {
		tr, h := mustNew(t, height), leafOf(5)
		mustSet(t, tr, 0, h)
		clear(h[:])
		root := tr.Root()
		clear(root[:])
		leaf, err1 := tr.Leaf(0)
		clear(leaf[:])
		top, err2 := tr.Node(height, 0)
		clear(top[:])
		if err1 != nil || err2 != nil {
			t.Fatal(err1, err2)
		}
		for _, leaf := range tr.All() {
			clear(leaf[:])
		}
		isTree(t, tr, height, leaves{0: leafOf(5)})
	}
}
