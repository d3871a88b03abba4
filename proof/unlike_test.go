package proof_test

import (
	"bytes"
	"crypto/sha256"
	"math/rand"
	"slices"
	"testing"

	"entrust/api"
	"entrust/proof"
)

// collide is whether there are two different texts with one hash among those of both, by a hash that is handed in.
func collide(hash func([]byte) api.Hash, a, b [][]byte) bool {
	texts := map[api.Hash][]byte{}
	for _, text := range slices.Concat(a, b) {
		h := hash(text)
		if other, is := texts[h]; is && !bytes.Equal(other, text) {
			return true
		}
		texts[h] = text
	}
	return false
}

// halves is the two hashes that are joined in a text.
func halves(text []byte) (left, right api.Hash) {
	return api.Hash(text[2:34]), api.Hash(text[34:])
}

// found is the leaves and the proof that are in texts, from the root's down. A hash below that isn't one of these two must be that of the text before, so that whoever has two unlike texts for one node has two texts with one hash, or two nodes below that are unlike.
func found(t *testing.T, s spot, indices []uint64, texts [][]byte, h api.Hash) (leaves, beside []api.Hash, remaining [][]byte) {
	t.Helper()
	switch {
	case !s.hasBelow(indices):
		return nil, []api.Hash{h}, texts
	case s.level == 0:
		return []api.Hash{h}, nil, texts
	}
	last := texts[len(texts)-1]
	if api.Hash(sha256.Sum256(last)) != h || int(last[1]) != s.level {
		t.Fatalf("indices %d, %v: the text is %x, of another hash than %x", indices, s, last, h)
	}
	l, r := s.below()
	left, right := halves(last)
	leaves2, beside2, texts := found(t, r, indices, texts[:len(texts)-1], right)
	leaves1, beside1, texts := found(t, l, indices, texts, left)
	return append(leaves1, leaves2...), append(beside1, beside2...), texts
}

// TestTextsHaveAllHashes is P10.3: the texts, and the root, have every leaf and every hash of the proof in them, and each text the hash of those below it. So where leaves or proofs are unlike, there are unlike texts for one node, and from the root down there is one where they have one hash.
func TestTextsHaveAllHashes(t *testing.T) {
	rnd := rand.New(rand.NewSource(21))
	for _, height := range heights() {
		for _, indices := range someLists(rnd, height) {
			leaves := randomHashes(rnd, len(indices))
			beside := randomHashes(rnd, len(reached(spot{height, 0}, indices)))
			root := mustRoot(t, height, indices, leaves, beside)
			texts := mustTexts(t, height, indices, leaves, beside)
			gotLeaves, gotBeside, remaining := found(t, spot{height, 0}, indices, texts, root)
			if !slices.Equal(gotLeaves, leaves) || !slices.Equal(gotBeside, beside) || len(remaining) != 0 {
				t.Fatalf("height %d, indices %d: the texts have %x and %x, not %x and %x; %d texts are left", height, indices, gotLeaves, gotBeside, leaves, beside, len(remaining))
			}
		}
	}
}

// TestUnlikeRoots is P10.3: where other leaves, or another proof, yield the same root, two of their texts collide. None do: unlike ones have unlike roots, and no two texts of theirs have one hash.
func TestUnlikeRoots(t *testing.T) {
	rnd := rand.New(rand.NewSource(22))
	for _, p := range someProven(t, rnd) {
		texts := mustTexts(t, p.height, p.indices, p.leaves, p.beside)
		for range 2 {
			other := p
			other.leaves, other.beside = slices.Clone(p.leaves), slices.Clone(p.beside)
			if rnd.Intn(2) == 0 || len(p.beside) == 0 {
				other.leaves[rnd.Intn(len(p.leaves))] = randomHash(rnd)
			} else {
				other.beside[rnd.Intn(len(p.beside))] = randomHash(rnd)
			}
			root := mustRoot(t, other.height, other.indices, other.leaves, other.beside)
			others := mustTexts(t, other.height, other.indices, other.leaves, other.beside)
			same := collide(func(b []byte) api.Hash { return sha256.Sum256(b) }, texts, others)
			if root == p.root || same {
				t.Fatalf("height %d, indices %d: root %x of %x, two texts with one hash: %v", p.height, p.indices, root, p.root, same)
			}
		}
	}
}

// weakly is the root and the texts that leaves and a proof yield with a hash of a few bits, joined as Texts has it: a hash that was joined is exchanged for the weak one of its text.
func weakly(t *testing.T, weak func([]byte) api.Hash, p proven) (api.Hash, [][]byte) {
	t.Helper()
	var out [][]byte
	stand := map[api.Hash]api.Hash{}
	root := mustRoot(t, p.height, p.indices, p.leaves, p.beside)
	for _, text := range mustTexts(t, p.height, p.indices, p.leaves, p.beside) {
		left, right := halves(text)
		if h, is := stand[left]; is {
			left = h
		}
		if h, is := stand[right]; is {
			right = h
		}
		text2 := slices.Concat(text[:2], left[:], right[:])
		stand[sha256.Sum256(text)] = weak(text2)
		out = append(out, text2)
	}
	if h, is := stand[root]; is {
		root = h
	}
	return root, out
}

// TestCollisionsAreFound is P10.3 with collisions, which can be made where a hash has but 4 bits: the texts that are joined, in their order, have two with one hash wherever other leaves, or another proof, yield the same root.
func TestCollisionsAreFound(t *testing.T) {
	rnd := rand.New(rand.NewSource(23))
	weak := func(b []byte) api.Hash {
		h := sha256.Sum256(b)
		return api.Hash{h[0] & 15}
	}
	same := 0
	for _, height := range []int{0, 1, 2, 3, 5, 8} {
		for _, indices := range someLists(rnd, height) {
			if len(indices) > 32 {
				continue
			}
			n := len(reached(spot{height, 0}, indices))
			first := proven{height: height, indices: indices, leaves: randomHashes(rnd, len(indices)), beside: randomHashes(rnd, n)}
			root, texts := weakly(t, weak, first)
			for range 60 {
				other := first
				other.leaves, other.beside = slices.Clone(first.leaves), slices.Clone(first.beside)
				other.leaves[rnd.Intn(len(indices))] = randomHash(rnd)
				if n > 0 && rnd.Intn(2) == 0 {
					other.beside[rnd.Intn(n)] = randomHash(rnd)
				}
				root2, texts2 := weakly(t, weak, other)
				if root2 != root {
					continue
				}
				same++
				if !collide(weak, texts, texts2) {
					t.Fatalf("height %d, indices %d: one root, and no two texts with one hash", height, indices)
				}
			}
		}
	}
	if same < 50 {
		t.Errorf("one root %d times alone", same)
	}
}

// TestHeightZero is P10.3: in a tree of height 0 the leaf is the root, so no other leaf yields it, and there are no texts.
func TestHeightZero(t *testing.T) {
	rnd := rand.New(rand.NewSource(24))
	for range 50 {
		a, b := randomHash(rnd), randomHash(rnd)
		if mustRoot(t, 0, []uint64{0}, []api.Hash{a}, nil) == mustRoot(t, 0, []uint64{0}, []api.Hash{b}, nil) {
			t.Fatalf("%x and %x", a, b)
		}
		if err := proof.Check(a, 0, []uint64{0}, []api.Hash{b}, nil); err != api.ErrProof {
			t.Fatal(err)
		}
	}
}
