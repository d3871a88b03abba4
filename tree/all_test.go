package tree_test

import (
	"maps"
	"math/rand"
	"slices"
	"testing"

	"entrust/api"
	"entrust/tree"
)

// yields fails if All doesn't yield these leaves, each once, in the order of their indices, and Len isn't as many.
func yields(t *testing.T, tr *tree.Tree, x leaves) {
	t.Helper()
	var got []uint64
	for index, leaf := range tr.All() {
		if want, is := x[index]; !is || leaf != want {
			t.Fatalf("index %d: %x, not %x (%v)", index, leaf, want, is)
		}
		got = append(got, index)
	}
	if want := slices.Sorted(maps.Keys(x)); !slices.Equal(got, want) || tr.Len() != len(want) {
		t.Fatalf("indices %d, Len %d, not %d", got, tr.Len(), want)
	}
}

// TestAllInOrder is P9.1: All yields the leaves in increasing order of their indices, in whatever order they were set, also of indices that differ in their last or in their first bits alone.
func TestAllInOrder(t *testing.T) {
	rnd := rand.New(rand.NewSource(4))
	for _, indices := range [][]uint64{
		nil, {0}, {1<<32 - 1}, {1<<32 - 1, 0}, {1 << 31, 1<<31 - 1, 1, 0}, {256, 255, 1 << 16, 1<<16 - 1, 1 << 24, 1<<24 - 1},
		{10, 9, 100, 99, 1000, 999, 2, 1}, {1 << 31, 1 << 30, 1 << 29, 1 << 15, 4, 2, 1, 0},
	} {
		tr := mustNew(t, 32)
		for _, i := range rnd.Perm(len(indices)) {
			mustSet(t, tr, indices[i], leafOf(indices[i]))
		}
		yields(t, tr, leavesOf(indices...))
	}
	x := leaves{}
	tr := mustNew(t, 10)
	for _, i := range rnd.Perm(1 << 10) {
		x[uint64(i)] = randomHash(rnd)
		mustSet(t, tr, uint64(i), x[uint64(i)])
	}
	yields(t, tr, x)
}

// TestAllIsLeft is P9.1: a loop over All that is left behind any of the leaves had those up to it, and All yields nothing any more; the next loop begins anew.
func TestAllIsLeft(t *testing.T) {
	rnd := rand.New(rand.NewSource(5))
	for _, height := range []int{0, 1, 4, 32} {
		for _, x := range someLeaves(rnd, height) {
			tr := treeOf(t, height, x)
			sorted := slices.Sorted(maps.Keys(x))
			all := tr.All()
			for most := 1; most <= len(sorted); most++ {
				var got []uint64
				for index := range all {
					got = append(got, index)
					if len(got) == most {
						break
					}
				}
				if !slices.Equal(got, sorted[:most]) {
					t.Fatalf("height %d, left behind %d: %d, not %d", height, most, got, sorted[:most])
				}
				calls := 0
				tr.All()(func(uint64, api.Hash) bool {
					calls++
					return calls < most
				})
				if calls != most {
					t.Fatalf("height %d: %d calls, not %d", height, calls, most)
				}
			}
			yields(t, tr, x)
			isTree(t, tr, height, x)
		}
	}
}

// TestAllWithin is P9.1: loops over All within loops over All, each with all leaves.
func TestAllWithin(t *testing.T) {
	x := leavesOf(0, 3, 4, 9, 15)
	tr := treeOf(t, 4, x)
	pairs := 0
	for range tr.All() {
		yields(t, tr, x)
		for range tr.All() {
			pairs++
		}
	}
	if pairs != 25 {
		t.Error(pairs)
	}
}

// TestAllOfAChangingTree is P9.1: what was set or dropped ahead of a loop over All is seen by it, and a tree may be changed within the loop, which ends all the same, with the indices in order.
func TestAllOfAChangingTree(t *testing.T) {
	tr := treeOf(t, 4, leavesOf(1, 5))
	all := tr.All()
	mustSet(t, tr, 7, leafOf(7))
	mustDrop(t, tr, 1)
	var got []uint64
	for index, leaf := range all {
		if leaf != leafOf(index) {
			t.Errorf("index %d: %x", index, leaf)
		}
		got = append(got, index)
	}
	if !slices.Equal(got, []uint64{5, 7}) {
		t.Error(got)
	}
	tr = treeOf(t, 32, leavesOf(0, 1, 2, 1<<31, 1<<32-1))
	for index := range tr.All() {
		mustDrop(t, tr, index)
	}
	isTree(t, tr, 32, leaves{})
	tr, got = treeOf(t, 4, leavesOf(0)), nil
	for index := range tr.All() {
		got = append(got, index)
		if index < 15 {
			mustSet(t, tr, index+1, leafOf(index+1))
		}
		mustSet(t, tr, index/2, leafOf(index/2))
	}
	if !slices.IsSorted(got) || len(slices.Compact(got)) != len(got) {
		t.Error(got)
	}
}
