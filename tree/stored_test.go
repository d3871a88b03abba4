package tree

import (
	"math/rand"
	"testing"

	"entrust/api"
)

// storesItsNodes fails if a tree doesn't store exactly its leaves and the nodes above them, or if one of these is empty, which none is of the leaves here.
func storesItsNodes(t *testing.T, tr *Tree, indices map[uint64]bool) {
	t.Helper()
	for level, nodes := range tr.levels {
		want := map[uint64]bool{}
		for index := range indices {
			want[index>>level] = true
		}
		if len(nodes) != len(want) {
			t.Fatalf("height %d, level %d: %d nodes, not %d", tr.Height(), level, len(nodes), len(want))
		}
		for place, h := range nodes {
			if !want[place] || h == tr.empties[level] {
				t.Fatalf("height %d, level %d, place %d: %x", tr.Height(), level, place, h)
			}
		}
	}
}

// TestEmptyNodesAreNotStored is P9.1 with the section 'Ways': where leaves are dropped, the nodes above them that are empty from then on are deleted, so that a tree keeps no more than its leaves need, in copies and other sizes too.
func TestEmptyNodesAreNotStored(t *testing.T) {
	rnd := rand.New(rand.NewSource(17))
	for _, height := range []int{0, 1, 2, 5, 31, 32} {
		tr, err := New(height)
		if err != nil {
			t.Fatal(err)
		}
		indices := map[uint64]bool{}
		for range 200 {
			index := rnd.Uint64() & (1<<height - 1)
			if rnd.Intn(2) == 0 {
				index = rnd.Uint64() & (1<<height - 1) & 7
			}
			if rnd.Intn(2) == 0 {
				indices[index] = true
				err = tr.Set(index, api.Hash{1, byte(index)})
			} else {
				delete(indices, index)
				err = tr.Drop(index)
			}
			if err != nil {
				t.Fatal(err)
			}
			storesItsNodes(t, tr, indices)
		}
		storesItsNodes(t, tr.Copy(), indices)
		for _, blocks := range []uint64{1, 2, 3, 7, 1 << 16, 1 << 32} {
			out, err := tr.Resize(blocks)
			if err != nil {
				t.Fatal(err)
			}
			remain := map[uint64]bool{}
			for index := range indices {
				if index < blocks {
					remain[index] = true
				}
			}
			storesItsNodes(t, out, remain)
		}
		for index := range indices {
			if err := tr.Drop(index); err != nil {
				t.Fatal(err)
			}
		}
		storesItsNodes(t, tr, nil)
	}
}
