package ctr_test

import (
	"bytes"
	"iter"
	"math/rand"
	"testing"

	"entrust/aes"
	"entrust/api"
	"entrust/ctr"
)

// first is the first blocks of an iterator, one behind the other, of a loop that is left when it has so many.
func first(blocks iter.Seq[[16]byte], count int) []byte {
	var out []byte
	for b := range blocks {
		if len(out) == 16*count {
			break
		}
		out = append(out, b[:]...)
	}
	return out
}

// TestBlocks is P5.1: the blocks of the stream, with counters at the edges, and without a cipher; a loop that is left at once, and later.
func TestBlocks(t *testing.T) {
	rnd := rand.New(rand.NewSource(9))
	for _, counter := range counters(rnd) {
		key := api.Key(random(rnd))
		for _, c := range []*aes.Cipher{aes.New(key), nil} {
			for _, count := range []int{0, 1, 2, 5} {
				if got, want := first(ctr.Blocks(c, counter), count), defined(c, counter, 16*count); !bytes.Equal(got, want) {
					t.Fatalf("key %x, counter %x: %x, not %x", key, counter, got, want)
				}
			}
		}
	}
}

// TestBlocksGoOn is P5.1: the iterator has no end where a stream of bytes has its greatest length, nor where the counter wraps around.
func TestBlocksGoOn(t *testing.T) {
	const count = 3 * longest / 16
	rnd := rand.New(rand.NewSource(10))
	key := api.Key(random(rnd))
	for _, counter := range [][16]byte{next(full(), 1<<64-100), full(), random(rnd)} {
		got := first(ctr.Blocks(aes.New(key), counter), count)
		if want := libraryTurn(t, key, counter, make([]byte, 16*count)); !bytes.Equal(got, want) {
			t.Errorf("counter %x: %d bytes, or others", counter, len(got))
		}
	}
}

// TestBlocksLeft is P5.1: when its loop is left, at once or later, the iterator gives no further block and returns.
func TestBlocksLeft(t *testing.T) {
	blocks := ctr.Blocks(aes.New(api.Key{4}), full())
	for _, last := range []int{1, 2, 3, 17, 1000} {
		calls := 0
		blocks(func([16]byte) bool {
			calls++
			return calls < last
		})
		if calls != last {
			t.Errorf("left at block %d: %d blocks", last, calls)
		}
	}
}

// TestBlocksLeftAnyhow is P5.1: a loop that is left by a return, by a panic, and to a loop around it.
func TestBlocksLeftAnyhow(t *testing.T) {
	c := aes.New(api.Key{5})
	blocks, want := ctr.Blocks(c, [16]byte{6}), c.Encrypt([16]byte{6})
	returned := func() [16]byte {
		for b := range blocks {
			return b
		}
		return [16]byte{}
	}
	panicked := func() (b any) {
		defer func() { b = recover() }()
		for b := range blocks {
			panic(b)
		}
		return nil
	}
	if returned() != want || panicked() != want {
		t.Errorf("%x, %v, not %x", returned(), panicked(), want)
	}
	rounds := 0
around:
	for range 3 {
		for b := range blocks {
			if b != want {
				t.Errorf("%x, not %x", b, want)
			}
			rounds++
			continue around
		}
	}
	if rounds != 3 {
		t.Errorf("%d rounds", rounds)
	}
}

// TestBlocksNeverCalled is P5.1: an iterator that nobody calls does nothing, and changes no answer of others.
func TestBlocksNeverCalled(t *testing.T) {
	c, counter := aes.New(api.Key{7}), [16]byte{8}
	want := defined(c, counter, 64)
	for range 1000 {
		if ctr.Blocks(c, counter) == nil || ctr.Blocks(nil, counter) == nil {
			t.Fatal("no iterator")
		}
	}
	if got := first(ctr.Blocks(c, counter), 4); !bytes.Equal(got, want) {
		t.Errorf("%x, not %x", got, want)
	}
}

// TestBlocksAgain is P5.1 with rule 8: each loop over an iterator begins at the counter, one after another, one within another, and several by turns.
func TestBlocksAgain(t *testing.T) {
	c, counter := aes.New(api.Key{9}), full()
	blocks := ctr.Blocks(c, counter)
	want := defined(c, counter, 16*4)
	for count := range 5 {
		if got := first(blocks, count); !bytes.Equal(got, want[:16*count]) {
			t.Errorf("%d blocks: %x", count, got)
		}
	}
	at := 0
	for b := range blocks {
		if at == len(want) {
			break
		}
		if !bytes.Equal(b[:], want[at:at+16]) || !bytes.Equal(first(blocks, 4), want) {
			t.Errorf("block %d: %x, or another one in the loop within", at/16, b)
		}
		at += 16
	}
	one, stopOne := iter.Pull(blocks)
	defer stopOne()
	other, stopOther := iter.Pull(blocks)
	defer stopOther()
	for at := 0; at < len(want); at += 16 {
		a, isOne := one()
		b, isOther := other()
		if !isOne || !isOther || a != b || !bytes.Equal(a[:], want[at:at+16]) {
			t.Errorf("block %d: %x and %x", at/16, a, b)
		}
	}
}
