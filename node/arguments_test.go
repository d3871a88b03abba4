package node_test

import (
	"bytes"
	"math/rand"
	"slices"
	"testing"

	"entrust/api"
	"entrust/node"
)

// TestArguments is P8.1 with rule 5: sealed blocks, hashes and texts are left as they are, with what stands before and behind a text in one memory.
func TestArguments(t *testing.T) {
	rnd := rand.New(rand.NewSource(14))
	for range 50 {
		x, left, right := sealed(bytesOf(rnd, 56)), api.Hash(bytesOf(rnd, 32)), api.Hash(bytesOf(rnd, 32))
		oldX, oldLeft, oldRight := x, left, right
		for _, n := range []uint64{0, uint64(rnd.Uint32()), 1 << 32} {
			node.Leaf(n, x)
			node.LeafText(n, x)
			node.Join(int(n%34), left, right)
			node.JoinText(int(n%34), left, right)
		}
		if x != oldX || left != oldLeft || right != oldRight {
			t.Fatalf("%x, %x, %x: changed", oldX, oldLeft, oldRight)
		}
	}
	all := bytesOf(rnd, 300)
	for first := range 4 {
		all[100], all[101] = byte(first), 7
		before := bytes.Clone(all)
		for n := range 100 {
			node.Kind(all[100 : 100+n])
			node.Kind(all[100 : 100+n : 100+n])
			if !bytes.Equal(all, before) {
				t.Fatalf("%d bytes: changed", n)
			}
		}
	}
}

// TestNothingIsKept is P8.1 with rule 5: who changes a text that was returned, with its spare capacity, or an argument behind the call, changes no other answer.
func TestNothingIsKept(t *testing.T) {
	rnd := rand.New(rand.NewSource(15))
	x, left, right := sealed(bytesOf(rnd, 56)), api.Hash(bytesOf(rnd, 32)), api.Hash(bytesOf(rnd, 32))
	firstLeaf, firstNode := mustLeaf(t, 9, x), mustJoin(t, 9, left, right)
	wantLeaf, wantNode := bytes.Clone(firstLeaf), bytes.Clone(firstNode)
	secondLeaf, secondNode := mustLeaf(t, 9, x), mustJoin(t, 9, left, right)
	for _, text := range [][]byte{firstLeaf, firstNode} {
		whole := text[:cap(text)]
		for i := range whole {
			whole[i] ^= 255
		}
	}
	if !bytes.Equal(secondLeaf, wantLeaf) || !bytes.Equal(secondNode, wantNode) {
		t.Error("two results share memory")
	}
	if !bytes.Equal(mustLeaf(t, 9, x), wantLeaf) || !bytes.Equal(mustJoin(t, 9, left, right), wantNode) {
		t.Error("another answer since a result was changed")
	}
	oldX, oldLeft, oldRight := x, left, right
	clear(x.Data[:])
	clear(left[:])
	clear(right[:])
	if !bytes.Equal(secondLeaf, wantLeaf) || !bytes.Equal(secondNode, wantNode) {
		t.Error("a result changes with what was handed in")
	}
	if bytes.Equal(mustLeaf(t, 9, x), wantLeaf) || bytes.Equal(mustJoin(t, 9, left, right), wantNode) {
		t.Error("what was handed in before is kept")
	}
	if !bytes.Equal(mustLeaf(t, 9, oldX), wantLeaf) || !bytes.Equal(mustJoin(t, 9, oldLeft, oldRight), wantNode) {
		t.Error("another answer to the same question")
	}
}

// TestEmptiesAreCopies is P8.1 with rule 5: who changes the empty hashes that were returned changes no other answer.
func TestEmptiesAreCopies(t *testing.T) {
	want := node.Empties()
	changed := node.Empties()
	for i := range changed {
		clear(changed[i][:])
	}
	if node.Empties() != want {
		t.Error("Empties has what was changed")
	}
	for height, h := range want {
		got, err := node.Empty(height)
		if err != nil || got != h {
			t.Fatalf("height %d: %x and %v, not %x", height, got, err, h)
		}
		clear(got[:])
		if again, err := node.Empty(height); err != nil || again != h {
			t.Fatalf("height %d, again: %x and %v, not %x", height, again, err, h)
		}
	}
}

// TestSameAnswers is P8.1 with rules 3 and 8: many leaves and nodes by turns, with errors between, of which none hangs on what was asked before.
func TestSameAnswers(t *testing.T) {
	rnd := rand.New(rand.NewSource(16))
	type question struct {
		index  uint64
		height int
		b      []byte
	}
	ask := func(q question) []byte {
		h, err := node.Empty(q.height)
		if err != nil {
			t.Fatal(err)
		}
		return slices.Concat(mustLeaf(t, q.index, sealed(q.b)), mustJoin(t, q.height, api.Hash(q.b[:32]), api.Hash(q.b[32:])), h[:])
	}
	questions, first := make([]question, 60), make([][]byte, 60)
	for i := range questions {
		questions[i] = question{uint64(rnd.Uint32()), 1 + rnd.Intn(32), bytesOf(rnd, 64)}
		first[i] = ask(questions[i])
	}
	bad := badHeights()
	for _, i := range append(rnd.Perm(len(questions)), rnd.Perm(len(questions))...) {
		q := questions[i]
		if got := ask(q); !bytes.Equal(got, first[i]) {
			t.Fatalf("%d: %x, not %x", q, got, first[i])
		}
		if _, err := node.LeafText(q.index+1<<32, sealed(q.b)); err != api.ErrRange {
			t.Fatal(err)
		}
		if _, err := node.JoinText(bad[i%len(bad)], api.Hash(q.b[:32]), api.Hash(q.b[32:])); err != api.ErrRange {
			t.Fatal(err)
		}
		isKind(t, q.b[:61], kindOf(q.b[:61]))
	}
}
