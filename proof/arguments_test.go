package proof_test

import (
	"bytes"
	"math"
	"math/rand"
	"slices"
	"testing"

	"entrust/api"
	"entrust/node"
	"entrust/proof"
	"entrust/tree"
)

// answersError fails if Root, Check, Texts don't return an error, or a result beside it.
func answersError(t *testing.T, want error, height int, indices []uint64, leaves, beside []api.Hash) {
	t.Helper()
	if root, err := proof.Root(height, indices, leaves, beside); err != want || root != (api.Hash{}) {
		t.Fatalf("height %d, indices %d: Root %x and %v, not %v", height, indices, root, err, want)
	}
	if texts, err := proof.Texts(height, indices, leaves, beside); err != want || len(texts) != 0 {
		t.Fatalf("height %d, indices %d: Texts %x and %v, not %v", height, indices, texts, err, want)
	}
	for _, root := range []api.Hash{{}, {1}, node.Empties()[0]} {
		if err := proof.Check(root, height, indices, leaves, beside); err != want {
			t.Fatalf("height %d, indices %d: Check %v, not %v", height, indices, err, want)
		}
	}
}

// answersRange fails if Count, Root, Check and Texts don't return ErrRange, whatever the leaves and the hashes are.
func answersRange(t *testing.T, rnd *rand.Rand, height int, indices []uint64) {
	t.Helper()
	if n, err := proof.Count(height, indices); err != api.ErrRange || n != 0 {
		t.Errorf("height %d, indices %d: Count %d and %v", height, indices, n, err)
	}
	for _, n := range []int{0, 1, len(indices), len(indices) + 1} {
		for _, m := range []int{0, 1, 2, 32} {
			answersError(t, api.ErrRange, height, indices, randomHashes(rnd, n), randomHashes(rnd, m))
		}
	}
}

// TestNoSuchHeight is P10.1: a height that isn't between 0 and 32 is ErrRange, whatever else is wrong.
func TestNoSuchHeight(t *testing.T) {
	rnd := rand.New(rand.NewSource(31))
	for _, height := range noHeights() {
		for _, indices := range [][]uint64{nil, {0}, {0, 1}, {1, 0}, {1<<32 - 1}, {1 << 32}, {math.MaxUint64}, run(0, 256), run(0, 257)} {
			answersRange(t, rnd, height, indices)
		}
	}
}

// TestNoLists is P10.1: what isn't a list of indices for the height is ErrRange, whatever else is wrong, for a tree of that height too.
func TestNoLists(t *testing.T) {
	rnd := rand.New(rand.NewSource(32))
	for _, height := range []int{0, 1, 2, 8, 9, 31, 32} {
		tr := mustTree(t, rnd, height, 0, 1<<height-1)
		for _, indices := range noLists(height) {
			answersRange(t, rnd, height, indices)
			if beside, err := proof.Make(tr, indices); err != api.ErrRange || len(beside) != 0 {
				t.Errorf("height %d, indices %d: Make %x and %v", height, indices, beside, err)
			}
			if leaves, err := proof.Leaves(tr, indices); err != api.ErrRange || len(leaves) != 0 {
				t.Errorf("height %d, indices %d: Leaves %x and %v", height, indices, leaves, err)
			}
		}
	}
}

// TestNumberOfHashes is P10.1: another number of leaves than of indices is ErrForm, also where the number of hashes is wrong too; that alone is ErrProof.
func TestNumberOfHashes(t *testing.T) {
	rnd := rand.New(rand.NewSource(33))
	for _, height := range heights() {
		for _, indices := range someLists(rnd, height) {
			n, m := len(indices), len(reached(spot{height, 0}, indices))
			for _, leaves := range []int{0, 1, n - 1, n, n + 1, n + m, 2*n + 1} {
				for _, beside := range []int{0, 1, m - 1, m, m + 1, n + m, 2*m + 1} {
					if beside < 0 {
						continue
					}
					var want error
					switch {
					case leaves != n:
						want = api.ErrForm
					case beside != m:
						want = api.ErrProof
					default:
						continue
					}
					answersError(t, want, height, indices, randomHashes(rnd, leaves), randomHashes(rnd, beside))
				}
			}
		}
	}
}

// TestNoneAtAll is P10.1: nil and empty lists are alike (rule 4), of leaves that are missing, and of proofs without hashes.
func TestNoneAtAll(t *testing.T) {
	rnd := rand.New(rand.NewSource(34))
	for _, none := range [][]api.Hash{nil, {}, make([]api.Hash, 0, 5)} {
		answersError(t, api.ErrForm, 1, []uint64{0}, none, none)
		answersError(t, api.ErrForm, 1, []uint64{0}, none, make([]api.Hash, 1))
		answersError(t, api.ErrProof, 1, []uint64{0}, make([]api.Hash, 1), none)
		leaves := randomHashes(rnd, 2)
		root := mustRoot(t, 1, []uint64{0, 1}, leaves, none)
		if err := proof.Check(root, 1, []uint64{0, 1}, leaves, none); err != nil {
			t.Error(err)
		}
	}
}

// TestNilTree is P10.1: Make and Leaves of a nil tree return ErrNone, whatever the indices are.
func TestNilTree(t *testing.T) {
	rnd := rand.New(rand.NewSource(35))
	for _, indices := range append(noLists(3), someLists(rnd, 3)...) {
		if beside, err := proof.Make(nil, indices); err != api.ErrNone || len(beside) != 0 {
			t.Errorf("indices %d: Make %x and %v", indices, beside, err)
		}
		if leaves, err := proof.Leaves(nil, indices); err != api.ErrNone || len(leaves) != 0 {
			t.Errorf("indices %d: Leaves %x and %v", indices, leaves, err)
		}
	}
}

// roomy is a list with spare capacity, and all of it, the spare capacity too, as it was.
func roomy[T any](list []T, spare T) (out, whole, before []T) {
	whole = append(slices.Clone(list), spare, spare, spare)
	return whole[:len(list)], whole, slices.Clone(whole)
}

// TestArgumentsAreLeft is P10.1 with rule 5: no call modifies its lists, their spare capacity, or the tree, be there an error or not.
func TestArgumentsAreLeft(t *testing.T) {
	rnd := rand.New(rand.NewSource(36))
	for _, height := range heights() {
		for _, list := range append(someLists(rnd, height), noLists(height)...) {
			tr := mustTree(t, rnd, height, 0, 1<<height-1)
			c := mustCopy(t, tr)
			count, _ := proof.Count(height, list)
			for missing := range 2 {
				indices, allIndices, wantIndices := roomy(list, 77)
				leaves, allLeaves, wantLeaves := roomy(randomHashes(rnd, max(len(list)-missing, 0)), api.Hash{7})
				beside, allBeside, wantBeside := roomy(randomHashes(rnd, count), api.Hash{8})
				callAll(tr, height, indices, leaves, beside)
				if !slices.Equal(allIndices, wantIndices) || !slices.Equal(allLeaves, wantLeaves) || !slices.Equal(allBeside, wantBeside) {
					t.Fatalf("height %d, indices %d: an argument is modified", height, list)
				}
				if tr.Root() != c.Root() || tr.Len() != c.Len() || tr.Height() != height {
					t.Fatalf("height %d, indices %d: the tree is modified", height, list)
				}
			}
		}
	}
}

// callAll makes each of the calls once.
func callAll(tr *tree.Tree, height int, indices []uint64, leaves, beside []api.Hash) {
	proof.Right(height, indices)
	proof.Sort(indices...)
	proof.Make(tr, indices)
	proof.Count(height, indices)
	proof.Root(height, indices, leaves, beside)
	proof.Check(api.Hash{}, height, indices, leaves, beside)
	proof.Texts(height, indices, leaves, beside)
	proof.Leaves(tr, indices)
}

// TestResultsAreNew is P10.1 with rule 5: who changes a list or a text that was returned, its spare capacity too, changes no other answer, no tree, and no argument.
func TestResultsAreNew(t *testing.T) {
	rnd := rand.New(rand.NewSource(37))
	for _, height := range heights() {
		for _, indices := range someLists(rnd, height) {
			tr := mustTree(t, rnd, height, indices...)
			root := tr.Root()
			leaves1, beside1 := mustMake(t, tr, indices)
			leaves2, beside2 := mustMake(t, tr, indices)
			wantLeaves, wantBeside := slices.Clone(leaves1), slices.Clone(beside1)
			texts1 := mustTexts(t, height, indices, leaves2, beside2)
			texts2 := mustTexts(t, height, indices, leaves2, beside2)
			clear(leaves1[:cap(leaves1)])
			clear(beside1[:cap(beside1)])
			textsAreApart(t, texts1, texts2)
			clear(texts1[:cap(texts1)])
			_, want := define(t, height, indices, wantLeaves, wantBeside)
			if !slices.EqualFunc(texts2, want, bytes.Equal) {
				t.Fatalf("height %d, indices %d: texts %x", height, indices, texts2)
			}
			if !slices.Equal(leaves2, wantLeaves) || !slices.Equal(beside2, wantBeside) {
				t.Fatalf("height %d, indices %d: %x and %x", height, indices, leaves2, beside2)
			}
			leaves3, beside3 := mustMake(t, tr, indices)
			if !slices.Equal(leaves3, wantLeaves) || !slices.Equal(beside3, wantBeside) || tr.Root() != root {
				t.Fatalf("height %d, indices %d: %x and %x", height, indices, leaves3, beside3)
			}
		}
	}
}

// textsAreApart overwrites the first texts one by one, with their spare capacity, and fails if one of those that follow, or of the second ones, changes.
func textsAreApart(t *testing.T, first, second [][]byte) {
	t.Helper()
	for i, text := range first {
		if !bytes.Equal(text, second[i]) {
			t.Fatalf("text %d: %x, not %x", i, text, second[i])
		}
		whole := text[:cap(text)]
		for j := range whole {
			whole[j] = 255
		}
	}
	for i, text := range first {
		if bytes.Equal(text, second[i]) {
			t.Fatalf("text %d is changed with the other one", i)
		}
	}
}

// TestArgumentsAreNotKept is P10.1 with rule 5: who changes a list that was handed in, or the tree, changes no answer.
func TestArgumentsAreNotKept(t *testing.T) {
	rnd := rand.New(rand.NewSource(38))
	for _, height := range heights() {
		for _, list := range someLists(rnd, height) {
			tr := mustTree(t, rnd, height, list...)
			indices := slices.Clone(list)
			leaves, beside := mustMake(t, tr, indices)
			wantLeaves, wantBeside := slices.Clone(leaves), slices.Clone(beside)
			sorted := proof.Sort(indices...)
			texts := mustTexts(t, height, indices, leaves, beside)
			_, want := define(t, height, list, wantLeaves, wantBeside)
			clear(indices)
			for _, index := range list {
				if err := tr.Drop(index); err != nil {
					t.Fatal(err)
				}
			}
			if !slices.Equal(leaves, wantLeaves) || !slices.Equal(beside, wantBeside) || !slices.Equal(sorted, list) {
				t.Fatalf("height %d, indices %d: %x, %x and %d", height, list, leaves, beside, sorted)
			}
			clear(leaves)
			clear(beside)
			if !slices.EqualFunc(texts, want, bytes.Equal) {
				t.Fatalf("height %d, indices %d: texts %x", height, list, texts)
			}
			clear(sorted[:cap(sorted)])
			if again := proof.Sort(list...); !slices.Equal(again, list) {
				t.Fatalf("%d, not %d", again, list)
			}
		}
	}
}
