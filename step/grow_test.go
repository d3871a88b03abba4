package step_test

import (
	"math/rand"
	"testing"

	"entrust/api"
	"entrust/node"
	"entrust/step"
	"entrust/tree"
)

// mustGrow is the root behind a growing step.
func mustGrow(t *testing.T, root api.Hash, was, blocks uint64) api.Hash {
	t.Helper()
	got, err := step.Grow(root, was, blocks)
	if err != nil {
		t.Fatalf("%d blocks to %d: %v", was, blocks, err)
	}
	return got
}

// TestGrow is P12.1: a growing step joins the root with the empty hash on the right, level by level, from the one height up to the other one.
func TestGrow(t *testing.T) {
	rnd := rand.New(rand.NewSource(11))
	for i, was := range numbers() {
		for _, blocks := range numbers()[i:] {
			root := randomHash(rnd)
			want := root
			for level := heightFor(was); level < heightFor(blocks); level++ {
				want = join(t, level+1, want, empties[level])
			}
			if got := mustGrow(t, root, was, blocks); got != want {
				t.Errorf("%d blocks to %d: %x, not %x", was, blocks, got, want)
			}
		}
	}
}

// TestGrowExample is P12.1: the chapter's example, for 1 block and 2.
func TestGrowExample(t *testing.T) {
	nothing, err := node.Empty(0)
	if err != nil {
		t.Fatal(err)
	}
	for _, root := range []api.Hash{{}, known(0), nothing} {
		if got := mustGrow(t, root, 1, 2); got != join(t, 1, root, nothing) {
			t.Errorf("%x", got)
		}
	}
}

// TestGrowKnown is P12.1 and P12.2: roots that Python's hashlib made, of volumes with the known leaves.
func TestGrowKnown(t *testing.T) {
	for _, c := range []struct {
		was, blocks uint64
		indices     []uint64
		root, want  string
	}{
		{1, 1, []uint64{0}, "0101010101010101010101010101010101010101010101010101010101010101", "0101010101010101010101010101010101010101010101010101010101010101"},
		{1, 2, []uint64{0}, "0101010101010101010101010101010101010101010101010101010101010101", "68fe68683cc36d4525daa41715c61ecde4c69a7ee801d63d6e7ee8a0c79d5e51"},
		{1, 3, []uint64{0}, "0101010101010101010101010101010101010101010101010101010101010101", "e37b7a8b128d96c61e474826ac51fdf0affbfae45efd6cd210f0b26a82fb626c"},
		{1, 4294967296, []uint64{0}, "0101010101010101010101010101010101010101010101010101010101010101", "408182371872c773295de788214a8ed8d5efc712f3cd07e423963d835cf05b43"},
		{2, 2, []uint64{0, 1}, "22a3049ba4417ea398271a5a40edc561eb7d2a7aa93c49c704310a84593aef51", "22a3049ba4417ea398271a5a40edc561eb7d2a7aa93c49c704310a84593aef51"},
		{2, 3, []uint64{0, 1}, "22a3049ba4417ea398271a5a40edc561eb7d2a7aa93c49c704310a84593aef51", "e2daca4a4b91e79d76eb48bc9f5667fc2f971e39892b32eea537f0eceb4c4d78"},
		{2, 5, []uint64{1}, "efe248343129c34d6b8e126144cc444a31943801c54cd23e0bd51751135dd0d4", "387158fd4cbf6ae53d4eec943fb119b1b9df0c517c4c58e2266afbe35803eac5"},
		{3, 4, []uint64{0, 2}, "e335654b41e0f0f38876ba8e361d28f4f40a503af04acbb6df78602401984b34", "e335654b41e0f0f38876ba8e361d28f4f40a503af04acbb6df78602401984b34"},
		{4, 5, []uint64{0, 1, 2, 3}, "16955ca0c36b306c08cf9d745f8175e66af913a648bd4cea50c749b8637e448a", "7fc7745add5e4aa2bd803f0bb10f8a69a08ef0146dbcd8ccf316bf10f470db97"},
		{5, 2147483648, []uint64{4}, "fa3d115d0240294a4d1437ddb8c6b196847cb6257b91aa2e94e79499ffebf85c", "c0fc0a6d1a3eb4dbce2366f1e36356c4f65d71fcc850331774a5e3a0891ff1fd"},
		{2147483648, 2147483649, []uint64{0, 2147483647}, "ff6b0618724729207beb790fb1d661e1a32dfbf22c59e2ec684ce71a404622ac", "533829a826aeb01909b0b1a1924b393d634609b5e35fab2a69e92a2530340a6a"},
		{2147483649, 4294967296, []uint64{2147483648}, "2a1a339a7ffff89241228a90a5c203b3ef45699b6278deebad2438e7cb455918", "2a1a339a7ffff89241228a90a5c203b3ef45699b6278deebad2438e7cb455918"},
		{4294967296, 4294967296, []uint64{4294967295}, "653131ee098de1c124f2582c097108bb39fd78758e785d2260e902b99818d844", "653131ee098de1c124f2582c097108bb39fd78758e785d2260e902b99818d844"},
	} {
		root := hash(t, c.root)
		if tr := knownTree(t, heightFor(c.was), c.indices...); tr.Root() != root {
			t.Errorf("%d blocks: %x", c.was, tr.Root())
		}
		if got := mustGrow(t, root, c.was, c.blocks); got != hash(t, c.want) {
			t.Errorf("%d blocks to %d: %x", c.was, c.blocks, got)
		}
	}
}

// TestGrowOfTrees is P12.2: a growing step leads from a volume's root to that of the tree that was grown, with heights that stay, and such that change by one and by more.
func TestGrowOfTrees(t *testing.T) {
	rnd := rand.New(rand.NewSource(12))
	for i, was := range numbers() {
		for _, tr := range volumes(t, rnd, was) {
			for _, blocks := range numbers()[i:] {
				grown := mustResize(t, tr, blocks)
				if got := mustGrow(t, tr.Root(), was, blocks); got != grown.Root() || grown.Len() != tr.Len() {
					t.Fatalf("%d blocks to %d: %x, not the root %x of %d leaves", was, blocks, got, grown.Root(), grown.Len())
				}
			}
		}
	}
}

// TestGrowOfNothing is P12.2: the empty hash of a volume that never was written leads to that of the greater one.
func TestGrowOfNothing(t *testing.T) {
	for i, was := range numbers() {
		for _, blocks := range numbers()[i:] {
			if got := mustGrow(t, empties[heightFor(was)], was, blocks); got != empties[heightFor(blocks)] {
				t.Errorf("%d blocks to %d: %x", was, blocks, got)
			}
		}
	}
}

// TestGrowInSteps is P12.2: growing twice leads to where growing once does, and growing to as many blocks to where it began.
func TestGrowInSteps(t *testing.T) {
	rnd := rand.New(rand.NewSource(13))
	for i, was := range numbers() {
		root := randomHash(rnd)
		if got := mustGrow(t, root, was, was); got != root {
			t.Errorf("%d blocks: %x, not %x", was, got, root)
		}
		for range 10 {
			j := i + rnd.Intn(len(numbers())-i)
			k := j + rnd.Intn(len(numbers())-j)
			between, blocks := numbers()[j], numbers()[k]
			got := mustGrow(t, mustGrow(t, root, was, between), between, blocks)
			if want := mustGrow(t, root, was, blocks); got != want {
				t.Errorf("%d blocks to %d to %d: %x, not %x", was, between, blocks, got, want)
			}
		}
	}
}

// TestGrowOfLowNumbers is P12.1 and P12.2: every two numbers of blocks around those of the low heights, 0 among them.
func TestGrowOfLowNumbers(t *testing.T) {
	rnd := rand.New(rand.NewSource(14))
	for was := range uint64(20) {
		tr := mustTree(t, rnd, heightFor(was), below(was)...)
		for blocks := range uint64(40) {
			got, err := step.Grow(tr.Root(), was, blocks)
			switch {
			case was == 0 || blocks < was:
				if got != (api.Hash{}) || err != api.ErrRange {
					t.Errorf("%d blocks to %d: %x and %v", was, blocks, got, err)
				}
			case err != nil || got != mustResize(t, tr, blocks).Root():
				t.Errorf("%d blocks to %d: %x and %v", was, blocks, got, err)
			}
		}
	}
}

// TestGrowRange is P12.1: ErrRange and zeros if was or blocks isn't between 1 and 2^32, or blocks is less than was, be it by one.
func TestGrowRange(t *testing.T) {
	root := known(1)
	wrong := func(was, blocks uint64) {
		t.Helper()
		if got, err := step.Grow(root, was, blocks); got != (api.Hash{}) || err != api.ErrRange {
			t.Errorf("%d blocks to %d: %x and %v", was, blocks, got, err)
		}
	}
	for i, was := range numbers() {
		for _, blocks := range numbers()[:i] {
			wrong(was, blocks)
		}
		if was > 1 {
			wrong(was, was-1)
		}
		for _, no := range noNumbers() {
			wrong(was, no)
			wrong(no, was)
		}
	}
	for _, was := range noNumbers() {
		for _, blocks := range noNumbers() {
			wrong(was, blocks)
		}
	}
}

// TestGrownLeaves is P12.2: a leaf of the volume, with its path and the empty hashes that stand beside the root, yields the root behind a growing step.
func TestGrownLeaves(t *testing.T) {
	rnd := rand.New(rand.NewSource(15))
	for i, was := range numbers() {
		tr := volumes(t, rnd, was)[1]
		for _, blocks := range numbers()[i:] {
			height, err := tree.Height(blocks)
			if err != nil {
				t.Fatal(err)
			}
			index := uint64(rnd.Int63n(int64(was)))
			path, err := tr.Path(index)
			if err != nil {
				t.Fatal(err)
			}
			path = append(path, empties[len(path):height]...)
			if got, want := mustGrow(t, tr.Root(), was, blocks), mustClimb(t, mustNode(t, tr, spot{0, index}), index, path); got != want {
				t.Errorf("%d blocks to %d: %x, not %x", was, blocks, got, want)
			}
		}
	}
}
