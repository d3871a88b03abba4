package span_test

import (
	"math"
	"math/rand"
	"slices"
	"testing"

	"entrust/api"
	"entrust/node"
	"entrust/span"
	"entrust/tree"
)

// answersError fails if Root and Check don't return an error, or a result beside it.
func answersError(t *testing.T, want error, height int, first uint64, leaves []api.Hash, lists span.Proof) {
	t.Helper()
	if root, err := span.Root(height, first, leaves, lists); err != want || root != (api.Hash{}) {
		t.Fatalf("height %d, %d leaves from %d on, lists of %d and %d: Root %x and %v, not %v", height, len(leaves), first, len(lists.Left), len(lists.Right), root, err, want)
	}
	for _, root := range []api.Hash{{}, {1}, node.Empties()[0]} {
		if err := span.Check(root, height, first, leaves, lists); err != want {
			t.Fatalf("height %d, %d leaves from %d on, lists of %d and %d: Check %v, not %v", height, len(leaves), first, len(lists.Left), len(lists.Right), err, want)
		}
	}
}

// answersRange fails if Counts, Root and Check don't return ErrRange, whatever the hashes are.
func answersRange(t *testing.T, rnd *rand.Rand, height int, p part) {
	t.Helper()
	if left, right, err := span.Counts(height, p.first, p.many); err != api.ErrRange || left != 0 || right != 0 {
		t.Errorf("height %d, %d: Counts %d, %d and %v", height, p, left, right, err)
	}
	if p.many < 0 || p.many > 1000 {
		return
	}
	for _, n := range []int{0, 1, 32} {
		for _, m := range []int{0, 1, 32} {
			answersError(t, api.ErrRange, height, p.first, randomHashes(rnd, p.many), span.Proof{Left: randomHashes(rnd, n), Right: randomHashes(rnd, m)})
		}
	}
}

// TestNoSuchHeight is P11.1: a height that isn't between 0 and 32 is ErrRange, whatever else is wrong.
func TestNoSuchHeight(t *testing.T) {
	rnd := rand.New(rand.NewSource(41))
	for _, height := range noHeights() {
		for _, p := range []part{{0, 0}, {0, 1}, {1, 1}, {0, 2}, {1<<32 - 1, 1}, {1 << 32, 1}, {math.MaxUint64, 1}, {math.MaxUint64, 2}, {0, 256}, {0, 257}, {0, -1}} {
			answersRange(t, rnd, height, p)
		}
	}
}

// TestNoSpans is P11.1: what isn't a span of the height is ErrRange, whatever else is wrong, for a tree of that height too.
func TestNoSpans(t *testing.T) {
	rnd := rand.New(rand.NewSource(42))
	for _, height := range heights() {
		tr := mustTree(t, rnd, height, 0, 1<<height-1)
		for _, p := range noSpans(height) {
			answersRange(t, rnd, height, p)
			if lists, err := span.Make(tr, p.first, p.many); err != api.ErrRange || len(lists.Left) != 0 || len(lists.Right) != 0 {
				t.Errorf("height %d, %d: Make %x and %v", height, p, lists, err)
			}
		}
	}
}

// TestEdgesOfNumbers is P11.1: 1 and 256 leaves are a span, at the first index and at the last one; none, 257, and one index behind the last one are ErrRange.
func TestEdgesOfNumbers(t *testing.T) {
	rnd := rand.New(rand.NewSource(43))
	for _, height := range []int{8, 9, 31, 32} {
		count := uint64(1) << height
		tr := mustTree(t, rnd, height, 0, count-1)
		for _, c := range []struct {
			part
			want error
		}{
			{part{0, 0}, api.ErrRange}, {part{0, 1}, nil}, {part{0, 255}, nil}, {part{0, 256}, nil}, {part{0, 257}, api.ErrRange},
			{part{count - 1, 1}, nil}, {part{count - 1, 2}, api.ErrRange}, {part{count, 1}, api.ErrRange},
			{part{count - 256, 256}, nil}, {part{count - 255, 256}, api.ErrRange}, {part{count - 255, 255}, nil}, {part{count - 256, 257}, api.ErrRange},
		} {
			lists, err := span.Make(tr, c.first, c.many)
			if err != c.want {
				t.Errorf("height %d, %d: Make %v, not %v", height, c.part, err, c.want)
			}
			if _, _, err := span.Counts(height, c.first, c.many); err != c.want {
				t.Errorf("height %d, %d: Counts %v, not %v", height, c.part, err, c.want)
			}
			if _, err := span.Root(height, c.first, make([]api.Hash, c.many), lists); err != c.want {
				t.Errorf("height %d, %d: Root %v, not %v", height, c.part, err, c.want)
			}
		}
	}
}

// TestNumberOfHashes is P11.1: another number of hashes in either list than Counts returns is ErrProof, also where both together have as many as they must.
func TestNumberOfHashes(t *testing.T) {
	rnd := rand.New(rand.NewSource(44))
	for _, height := range heights() {
		for _, p := range someSpans(rnd, height) {
			left, right := beside(height, p)
			n, m := len(left), len(right)
			leaves := randomHashes(rnd, p.many)
			for _, l := range []int{0, 1, n - 1, n, n + 1, m, n + m, 256, 1000} {
				for _, r := range []int{0, 1, m - 1, m, m + 1, n, n + m, 256, 1000} {
					if l < 0 || r < 0 || l == n && r == m {
						continue
					}
					answersError(t, api.ErrProof, height, p.first, leaves, span.Proof{Left: make([]api.Hash, l), Right: make([]api.Hash, r)})
				}
			}
		}
	}
}

// TestNumberOfLeaves is P11.1: leaves of which there is no span from the first index on are ErrRange, also where the lists are wrong too; others need lists of their own.
func TestNumberOfLeaves(t *testing.T) {
	rnd := rand.New(rand.NewSource(45))
	for _, height := range heights() {
		for _, p := range someSpans(rnd, height) {
			left, right := beside(height, p)
			for _, many := range []int{0, p.many - 1, p.many + 1, 256, 257, 1000} {
				other := part{p.first, many}
				want := error(api.ErrRange)
				if other.isSpan(height) {
					l, r := beside(height, other)
					if len(l) == len(left) && len(r) == len(right) {
						continue
					}
					want = api.ErrProof
				}
				leaves := randomHashes(rnd, many)
				answersError(t, want, height, p.first, leaves, span.Proof{Left: randomHashes(rnd, len(left)), Right: randomHashes(rnd, len(right))})
				if want == api.ErrRange {
					answersError(t, want, height, p.first, leaves, span.Proof{Left: randomHashes(rnd, len(left)+1)})
				}
			}
		}
	}
}

// TestNoneAtAll is P11.1: nil and empty lists are alike (rule 4), of leaves that are missing, of hashes that are missing, and of proofs without hashes.
func TestNoneAtAll(t *testing.T) {
	rnd := rand.New(rand.NewSource(46))
	for _, none := range [][]api.Hash{nil, {}, make([]api.Hash, 0, 5)} {
		one := randomHashes(rnd, 1)
		answersError(t, api.ErrRange, 1, 0, none, span.Proof{Left: none, Right: none})
		answersError(t, api.ErrRange, 1, 0, none, span.Proof{Left: none, Right: one})
		answersError(t, api.ErrRange, 0, 0, none, span.Proof{Left: none, Right: none})
		answersError(t, api.ErrProof, 1, 0, one, span.Proof{Left: none, Right: none})
		answersError(t, api.ErrProof, 1, 0, one, span.Proof{Left: one, Right: none})
		answersError(t, api.ErrProof, 1, 0, one, span.Proof{Left: one, Right: one})
		answersError(t, api.ErrProof, 1, 1, one, span.Proof{Left: none, Right: one})
		leaves := randomHashes(rnd, 2)
		root := mustRoot(t, 1, 0, leaves, span.Proof{Left: none, Right: none})
		if root != mustRoot(t, 1, 0, leaves, span.Proof{}) {
			t.Error(root)
		}
		if root != mustRoot(t, 1, 0, leaves[:1], span.Proof{Left: none, Right: leaves[1:]}) || root != mustRoot(t, 1, 1, leaves[1:], span.Proof{Left: leaves[:1], Right: none}) {
			t.Error(root)
		}
	}
}

// TestAnyNumbers is P11.1: whatever the height, the first index and the numbers of hashes are, the answer is an error that the chapter names first, or what it defines.
func TestAnyNumbers(t *testing.T) {
	rnd := rand.New(rand.NewSource(47))
	seen := map[error]int{}
	for range 6000 {
		height := rnd.Intn(36) - 2
		first := rnd.Uint64() >> rnd.Intn(64)
		if rnd.Intn(2) == 0 && height >= 0 {
			first &= 1<<height - 1
		}
		p := part{first, rnd.Intn(4)}
		lists := span.Proof{Left: randomHashes(rnd, rnd.Intn(3)), Right: randomHashes(rnd, rnd.Intn(3))}
		var left, right []spot
		if p.isSpan(height) {
			left, right = beside(height, p)
			if rnd.Intn(2) == 0 {
				lists = span.Proof{Left: randomHashes(rnd, len(left)), Right: randomHashes(rnd, len(right))}
			}
		}
		leaves := randomHashes(rnd, p.many)
		var want error
		switch {
		case !p.isSpan(height):
			want = api.ErrRange
		case len(left) != len(lists.Left) || len(right) != len(lists.Right):
			want = api.ErrProof
		}
		seen[want]++
		if want != nil {
			answersError(t, want, height, first, leaves, lists)
		} else if got := mustRoot(t, height, first, leaves, lists); got != define(t, height, p, leaves, lists) {
			t.Fatalf("height %d, %d: %x", height, p, got)
		}
	}
	if seen[nil] < 500 || seen[api.ErrRange] < 500 || seen[api.ErrProof] < 500 {
		t.Error(seen)
	}
}

// TestNilTree is P11.1: Make of a nil tree returns ErrNone, whatever the span is.
func TestNilTree(t *testing.T) {
	rnd := rand.New(rand.NewSource(48))
	for _, p := range append(noSpans(3), someSpans(rnd, 32)...) {
		if lists, err := span.Make(nil, p.first, p.many); err != api.ErrNone || len(lists.Left) != 0 || len(lists.Right) != 0 {
			t.Errorf("%d: Make %x and %v", p, lists, err)
		}
	}
}

// roomy is a list with spare capacity, and all of it, the spare capacity too, as it was.
func roomy(list []api.Hash, spare byte) (out, whole, before []api.Hash) {
	whole = append(slices.Clone(list), slices.Repeat([]api.Hash{{spare}}, 40)...)
	return whole[:len(list)], whole, slices.Clone(whole)
}

// TestArgumentsAreLeft is P11.1 with rule 5: no call modifies its lists, their spare capacity, or the tree, be there an error or not.
func TestArgumentsAreLeft(t *testing.T) {
	rnd := rand.New(rand.NewSource(49))
	for _, height := range heights() {
		for _, p := range someSpans(rnd, height) {
			tr := mustTree(t, rnd, height, 0, p.first, 1<<height-1)
			c := tr.Copy()
			left, right := beside(height, p)
			for missing := range 3 {
				leaves, allLeaves, wantLeaves := roomy(randomHashes(rnd, p.many-missing%2), 7)
				l, allLeft, wantLeft := roomy(randomHashes(rnd, len(left)), 8)
				r, allRight, wantRight := roomy(randomHashes(rnd, max(len(right)-missing/2, 0)), 9)
				callAll(tr, height, p, leaves, span.Proof{Left: l, Right: r})
				if !slices.Equal(allLeaves, wantLeaves) || !slices.Equal(allLeft, wantLeft) || !slices.Equal(allRight, wantRight) {
					t.Fatalf("height %d, %d: an argument is modified", height, p)
				}
				if tr.Root() != c.Root() || tr.Len() != c.Len() || tr.Height() != height {
					t.Fatalf("height %d, %d: the tree is modified", height, p)
				}
			}
		}
	}
}

// callAll makes each of the calls once.
func callAll(tr *tree.Tree, height int, p part, leaves []api.Hash, lists span.Proof) {
	span.Right(height, p.first, p.many)
	span.Indices(p.first, p.many)
	span.Make(tr, p.first, p.many)
	span.Root(height, p.first, leaves, lists)
	span.Check(api.Hash{}, height, p.first, leaves, lists)
	span.Counts(height, p.first, p.many)
}

// TestArgumentsInOneList is P11.1 with rule 5: leaves and lists that lie one behind the other in one list, each with the next one in its spare capacity, yield the same root as apart, and are left as they are.
func TestArgumentsInOneList(t *testing.T) {
	rnd := rand.New(rand.NewSource(50))
	for _, height := range heights() {
		for _, p := range someSpans(rnd, height) {
			left, right := beside(height, p)
			n, m := p.many, p.many+len(left)
			whole := randomHashes(rnd, m+len(right))
			before := slices.Clone(whole)
			want := define(t, height, p, slices.Clone(whole[:n]), span.Proof{Left: slices.Clone(whole[n:m]), Right: slices.Clone(whole[m:])})
			got := mustRoot(t, height, p.first, whole[:n], span.Proof{Left: whole[n:m], Right: whole[m:]})
			if got != want || !slices.Equal(whole, before) {
				t.Fatalf("height %d, %d: %x, not %x", height, p, got, want)
			}
		}
	}
}

// TestResultsAreNew is P11.1 with rule 5: who changes a list that was returned, its spare capacity too, changes no other list of that answer, no other answer, and no tree.
func TestResultsAreNew(t *testing.T) {
	rnd := rand.New(rand.NewSource(51))
	for _, height := range heights() {
		for _, p := range someSpans(rnd, height) {
			tr := mustTree(t, rnd, height, p.indices()...)
			root := tr.Root()
			first, second := mustMake(t, tr, p), mustMake(t, tr, p)
			left, right := slices.Clone(first.Left), slices.Clone(first.Right)
			clear(first.Left[:cap(first.Left)])
			if !slices.Equal(first.Right, right) {
				t.Fatalf("height %d, %d: the right list is changed with the left one", height, p)
			}
			copy(first.Left, left)
			clear(first.Right[:cap(first.Right)])
			third := mustMake(t, tr, p)
			for i, lists := range []span.Proof{{Left: first.Left, Right: right}, second, third} {
				if !slices.Equal(lists.Left, left) || !slices.Equal(lists.Right, right) {
					t.Fatalf("height %d, %d, answer %d: %x and %x", height, p, i, lists.Left, lists.Right)
				}
			}
			if tr.Root() != root || !slices.Equal(mustLeaves(t, tr, p), mustLeaves(t, tr.Copy(), p)) {
				t.Fatalf("height %d, %d: the tree is changed", height, p)
			}
			indices1, indices2 := span.Indices(p.first, p.many), span.Indices(p.first, p.many)
			clear(indices1[:cap(indices1)])
			if !slices.Equal(indices2, p.indices()) || !slices.Equal(span.Indices(p.first, p.many), p.indices()) {
				t.Fatalf("%d: %d", p, indices2)
			}
		}
	}
}

// TestArgumentsAreNotKept is P11.1 with rule 5: who changes the tree, or a list that was handed in, changes no answer.
func TestArgumentsAreNotKept(t *testing.T) {
	rnd := rand.New(rand.NewSource(52))
	for _, height := range heights() {
		for _, p := range someSpans(rnd, height) {
			tr := mustTree(t, rnd, height, p.indices()...)
			around := []uint64{(p.first - 1) & (1<<height - 1), (p.first + uint64(p.many)) & (1<<height - 1)}
			for _, index := range around {
				mustSet(t, tr, index, randomHash(rnd))
			}
			leaves, lists := mustLeaves(t, tr, p), mustMake(t, tr, p)
			left, right := slices.Clone(lists.Left), slices.Clone(lists.Right)
			root := mustRoot(t, height, p.first, leaves, lists)
			for _, index := range append(around, p.indices()...) {
				if err := tr.Drop(index); err != nil {
					t.Fatal(err)
				}
			}
			if !slices.Equal(lists.Left, left) || !slices.Equal(lists.Right, right) {
				t.Fatalf("height %d, %d: %x and %x", height, p, lists.Left, lists.Right)
			}
			again := slices.Clone(leaves)
			clear(leaves)
			clear(lists.Left)
			clear(lists.Right)
			if got := mustRoot(t, height, p.first, again, span.Proof{Left: left, Right: right}); got != root {
				t.Fatalf("height %d, %d: %x, not %x", height, p, got, root)
			}
		}
	}
}
