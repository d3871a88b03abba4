package step_test

import (
	"math/rand"
	"slices"
	"testing"

	"entrust/api"
	"entrust/step"
	"entrust/tree"
)

// roomy is a list with spare capacity in which there is something, so that who writes there is seen.
func roomy[T any](list, rest []T) []T {
	return append(slices.Clone(list), rest...)[:len(list)]
}

// whole is a list with what stands in its spare capacity.
func whole[T any](list []T) []T {
	return list[:cap(list)]
}

// isRoot fails if a tree's root isn't what it was.
func isRoot(t *testing.T, tr *tree.Tree, root api.Hash) {
	t.Helper()
	if tr.Root() != root {
		t.Fatalf("height %d: the tree has another root", tr.Height())
	}
}

// TestWriteArguments is P12.1 with rule 5: neither the indices nor the leaves nor the step itself are changed, with their spare capacity, nor is the tree.
func TestWriteArguments(t *testing.T) {
	rnd := rand.New(rand.NewSource(61))
	for _, height := range heights() {
		for _, list := range someLists(rnd, height) {
			tr := mustTree(t, rnd, height, list...)
			root, rest := tr.Root(), randomHashes(rnd, 300)
			indices := roomy(list, below(300))
			w := mustWrite(t, tr, indices)
			w = step.Write{Indices: roomy(list, below(300)), Old: roomy(w.Old, rest), Beside: roomy(w.Beside, rest)}
			leaves := roomy(newLeaves(rnd, len(list)), rest)
			all, old, aside, next := slices.Clone(whole(indices)), slices.Clone(whole(w.Old)), slices.Clone(whole(w.Beside)), slices.Clone(whole(leaves))
			numbers := slices.Clone(whole(w.Indices))
			mustNext(t, w, root, height, leaves)
			noNext(t, api.ErrProof, w, turned(root, 9), height, leaves)
			noNext(t, api.ErrForm, w, root, height, leaves[1:])
			if !slices.Equal(whole(indices), all) || !slices.Equal(whole(w.Indices), numbers) || !slices.Equal(whole(w.Old), old) || !slices.Equal(whole(w.Beside), aside) || !slices.Equal(whole(leaves), next) {
				t.Fatalf("height %d, %d indices: changed", height, len(list))
			}
			isRoot(t, tr, root)
		}
	}
}

// TestCutArguments is P12.1 with rule 5: neither the path of a cutting step nor one that is climbed is changed, with its spare capacity, nor is the tree.
func TestCutArguments(t *testing.T) {
	rnd := rand.New(rand.NewSource(62))
	for i, was := range numbers() {
		tr := volumes(t, rnd, was)[1]
		root := tr.Root()
		for _, blocks := range numbers()[:i+1] {
			c := mustCut(t, tr, blocks)
			isRoot(t, tr, root)
			c.Path = roomy(c.Path, randomHashes(rnd, 40))
			leaf, all := c.Leaf, slices.Clone(whole(c.Path))
			first := mustEnd(t, c, root, was, blocks)
			noEnd(t, api.ErrProof, c, turned(root, 7), was, blocks)
			if got := mustClimb(t, c.Leaf, blocks-1, c.Path); got != root {
				t.Fatalf("%d blocks to %d: %x", was, blocks, got)
			}
			if !slices.Equal(whole(c.Path), all) || c.Leaf != leaf {
				t.Fatalf("%d blocks to %d: changed", was, blocks)
			}
			if again := mustEnd(t, c, root, was, blocks); again != first {
				t.Errorf("%d blocks to %d: %x, and then %x", was, blocks, first, again)
			}
		}
	}
}

// TestWriteIsNew is P12.1 with rule 5: who changes a writing step that was returned, with its spare capacity, changes no other answer and no argument, and a step doesn't change with the indices or the tree.
func TestWriteIsNew(t *testing.T) {
	rnd := rand.New(rand.NewSource(63))
	for _, height := range heights() {
		for _, list := range someLists(rnd, height) {
			tr := mustTree(t, rnd, height, list...)
			root, indices := tr.Root(), roomy(list, below(20))
			all := slices.Clone(whole(indices))
			first, second := mustWrite(t, tr, indices), mustWrite(t, tr, indices)
			want := step.Write{Indices: slices.Clone(first.Indices), Old: slices.Clone(first.Old), Beside: slices.Clone(first.Beside)}
			clear(whole(first.Indices))
			clear(whole(first.Old))
			if !slices.Equal(first.Beside, want.Beside) {
				t.Fatalf("height %d, %d indices: the lists share memory", height, len(list))
			}
			clear(whole(first.Beside))
			sameWrite(t, second, want)
			sameWrite(t, mustWrite(t, tr, indices), want)
			if !slices.Equal(whole(indices), all) {
				t.Fatalf("height %d, %d indices: changed", height, len(list))
			}
			isRoot(t, tr, root)
			clear(whole(indices))
			mustSet(t, tr, list[0], randomHash(rnd))
			sameWrite(t, second, want)
		}
	}
}

// sameWrite fails if two writing steps aren't alike.
func sameWrite(t *testing.T, got, want step.Write) {
	t.Helper()
	if !slices.Equal(got.Indices, want.Indices) || !slices.Equal(got.Old, want.Old) || !slices.Equal(got.Beside, want.Beside) {
		t.Fatalf("%x, not %x", got, want)
	}
}

// TestCutIsNew is P12.1 with rule 5: who changes a cutting step that was returned, with its spare capacity, changes no other answer, and a step doesn't change with the tree.
func TestCutIsNew(t *testing.T) {
	rnd := rand.New(rand.NewSource(64))
	for _, was := range numbers() {
		for _, tr := range volumes(t, rnd, was) {
			root := tr.Root()
			first, second := mustCut(t, tr, was), mustCut(t, tr, was)
			leaf, path := first.Leaf, slices.Clone(first.Path)
			clear(first.Leaf[:])
			clear(whole(first.Path))
			third := mustCut(t, tr, was)
			isRoot(t, tr, root)
			mustSet(t, tr, 0, randomHash(rnd))
			for _, c := range []step.Cut{second, third} {
				if c.Leaf != leaf || !slices.Equal(c.Path, path) {
					t.Fatalf("%d blocks: %x, not %x and %x", was, c, leaf, path)
				}
			}
		}
	}
}

// TestNilAndEmpty is P12.1 with rule 4: nil lists mean what empty ones do.
func TestNilAndEmpty(t *testing.T) {
	leaf, next := known(1), known(2)
	for _, none := range [][]api.Hash{nil, {}} {
		w := step.Write{Indices: []uint64{0}, Old: []api.Hash{leaf}, Beside: none}
		if got := mustNext(t, w, leaf, 0, []api.Hash{next}); got != next {
			t.Errorf("%x", got)
		}
		noNext(t, api.ErrForm, w, leaf, 0, none)
		noNext(t, api.ErrForm, step.Write{Indices: []uint64{0}, Old: none, Beside: none}, leaf, 0, []api.Hash{next})
		noNext(t, api.ErrProof, step.Write{Indices: []uint64{0}, Old: []api.Hash{leaf}, Beside: none}, leaf, 1, []api.Hash{next})
		for _, indices := range [][]uint64{nil, {}} {
			noNext(t, api.ErrRange, step.Write{Indices: indices, Old: none, Beside: none}, leaf, 0, none)
		}
		if got := mustEnd(t, step.Cut{Leaf: leaf, Path: none}, leaf, 1, 1); got != leaf {
			t.Errorf("%x", got)
		}
		noEnd(t, api.ErrForm, step.Cut{Leaf: leaf, Path: none}, leaf, 2, 1)
	}
}
