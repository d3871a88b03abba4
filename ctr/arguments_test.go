package ctr_test

import (
	"bytes"
	"math/rand"
	"testing"

	"entrust/aes"
	"entrust/api"
	"entrust/ctr"
)

// TestArguments is P5.1 with rule 5: the bytes are left as they are, with what stands before them and with their spare capacity, and so are the counter and the cipher.
func TestArguments(t *testing.T) {
	rnd := rand.New(rand.NewSource(11))
	key, counter := api.Key(random(rnd)), random(rnd)
	c, before := aes.New(key), counter
	own := *c
	all := make([]byte, 200)
	rnd.Read(all)
	old := bytes.Clone(all)
	for n := range 100 {
		ctr.Turn(c, counter, all[50:50+n])
		ctr.Turn(nil, counter, all[50:50+n])
		if _, err := ctr.Stream(c, counter, n); err != nil {
			t.Fatal(err)
		}
		first(ctr.Blocks(c, counter), n%5)
		ctr.Next(counter, uint64(n))
		if !bytes.Equal(all, old) || counter != before || *c != own {
			t.Fatalf("%d bytes: changed", n)
		}
	}
}

// TestNewMemory is P5.1 with rule 5: no two results share memory, nor does one share any with the bytes that were turned; who changes a result, its spare capacity too, changes no other answer.
func TestNewMemory(t *testing.T) {
	rnd := rand.New(rand.NewSource(12))
	for _, n := range []int{0, 1, 15, 16, 17, 100, 5000} {
		c, counter, b := aes.New(random(rnd)), random(rnd), make([]byte, n, 2*n+32)
		rnd.Read(b)
		old := bytes.Clone(b[:cap(b)])
		stream, err := ctr.Stream(c, counter, n)
		again, errAgain := ctr.Stream(c, counter, n)
		if err != nil || errAgain != nil {
			t.Fatal(err, errAgain)
		}
		turned, turnedAgain := ctr.Turn(c, counter, b), ctr.Turn(c, counter, b)
		clear(stream[:cap(stream)])
		clear(turned[:cap(turned)])
		if !bytes.Equal(b[:cap(b)], old) {
			t.Errorf("%d bytes: a result shares their memory", n)
		}
		if !bytes.Equal(again, defined(c, counter, n)) || !bytes.Equal(ctr.Turn(c, counter, turnedAgain), b) {
			t.Errorf("%d bytes: two results share memory", n)
		}
		clear(b)
		if !bytes.Equal(ctr.Turn(c, counter, turnedAgain), old[:n]) {
			t.Errorf("%d bytes: a result shares their memory", n)
		}
	}
}

// TestNothingIsKept is P5.1 with rule 5: an iterator goes on with the cipher and the counter that it was given, though another cipher has been put in the first one's place since, before the loop or within it.
func TestNothingIsKept(t *testing.T) {
	rnd := rand.New(rand.NewSource(13))
	key, counter := api.Key(random(rnd)), random(rnd)
	want := defined(aes.New(key), counter, 16*4)
	for changed := range 4 {
		c, own := aes.New(key), counter
		blocks := ctr.Blocks(c, own)
		clear(own[:])
		i := 0
		for b := range blocks {
			if i == changed {
				*c = *aes.New(random(rnd))
			}
			if !bytes.Equal(b[:], want[16*i:16*i+16]) {
				t.Errorf("another cipher since block %d: block %d is %x", changed, i, b)
			}
			if i++; i == 4 {
				break
			}
		}
		if got := first(blocks, 4); !bytes.Equal(got, want) {
			t.Errorf("another cipher before the loop: %x", got)
		}
	}
}

// TestBlocksAreValues is P5.1 with rule 5: who changes a block changes no later one.
func TestBlocksAreValues(t *testing.T) {
	c := aes.New(api.Key{10})
	want := defined(c, full(), 16*4)
	at := 0
	for b := range ctr.Blocks(c, full()) {
		if !bytes.Equal(b[:], want[at:at+16]) {
			t.Errorf("block %d: %x", at/16, b)
		}
		clear(b[:])
		if at += 16; at == len(want) {
			break
		}
	}
}

// TestSameAnswers is P5.1 with rule 8: many ciphers and counters by turns, of which none hangs on the others, or on what was turned before.
func TestSameAnswers(t *testing.T) {
	rnd := rand.New(rand.NewSource(14))
	keys := make([]api.Key, 50)
	ciphers := make([]*aes.Cipher, len(keys))
	for i := range keys {
		keys[i] = random(rnd)
		ciphers[i] = aes.New(keys[i])
	}
	for _, i := range append(rnd.Perm(len(keys)), rnd.Perm(len(keys))...) {
		counter, b := random(rnd), make([]byte, rnd.Intn(100))
		rnd.Read(b)
		want := libraryTurn(t, keys[i], counter, b)
		for range 2 {
			if got := ctr.Turn(ciphers[i], counter, b); !bytes.Equal(got, want) {
				t.Fatalf("key %x, counter %x: %x, not %x", keys[i], counter, got, want)
			}
		}
	}
}
