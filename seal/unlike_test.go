package seal_test

import (
	libraryaes "crypto/aes"
	"encoding/binary"
	"math/rand"
	"testing"

	"entrust/api"
	"entrust/keys"
	"entrust/seal"
)

// place is where and when a block is sealed.
type place struct{ index, epoch uint64 }

// places are all the edges, and places whose bytes are those of another one, moved, exchanged or carried over.
func places() []place {
	out := []place{
		{0x01020304, 0x0506070800000000}, {0x05060708, 0x0102030400000000}, {0x01020304, 0x05060708}, {0x05060708, 0x01020304},
		{0, 0x0102030405060708}, {0x01020304, 0x05060708090a0b0d}, {0x04030201, 0x0c0b0a0908070605}, {0x0b0c0102, 0x030405060708090a},
		{3, 4}, {4, 3}, {0, 3}, {3, 1<<32 + 3}, {1, 1 << 24}, {256, 3}, {3, 256}, {3, 3},
	}
	for _, index := range indices() {
		for _, epoch := range epochs() {
			out = append(out, place{index, epoch})
		}
	}
	return out
}

// countersOf are the counters by which a block was turned: what of its data isn't the block's, decrypted.
func countersOf(t *testing.T, key api.Key, x seal.Sealed, b api.Block) [2][16]byte {
	t.Helper()
	enc := keys.Of(key).Enc
	c, err := libraryaes.NewCipher(enc[:])
	if err != nil {
		t.Fatal(err)
	}
	for i := range b {
		b[i] ^= x.Data[i]
	}
	var out [2][16]byte
	for i := range out {
		c.Decrypt(out[i][:], b[16*i:16*i+16])
	}
	return out
}

// TestCounters is P7.3: the counters consist of the index, the epoch and four bytes that count from zero on, byte by byte.
func TestCounters(t *testing.T) {
	s, b := seal.New(counted()), api.Block{1, 2, 3}
	got := countersOf(t, counted(), mustSeal(t, s, 0x01020304, 0x05060708090a0b0c, b), b)
	want := [2][16]byte{
		{1, 2, 3, 4, 5, 6, 7, 8, 9, 10, 11, 12, 0, 0, 0, 0},
		{1, 2, 3, 4, 5, 6, 7, 8, 9, 10, 11, 12, 0, 0, 0, 1},
	}
	if got != want {
		t.Errorf("%x, not %x", got, want)
	}
	for _, at := range places() {
		for i, counter := range countersOf(t, counted(), mustSeal(t, s, at.index, at.epoch, b), b) {
			if want := binary.BigEndian.AppendUint32(placeBytes(at.index, at.epoch), uint32(i)); counter != [16]byte(want) {
				t.Fatalf("%d: %x, not %x", at, counter, want)
			}
		}
	}
}

// TestNoCommonCounter is P7.3: blocks sealed at unlike places are turned by counters none of which is another one's, with one key or several sealers of it.
func TestNoCommonCounter(t *testing.T) {
	rnd := rand.New(rand.NewSource(12))
	key := api.Key(text(rnd, 16))
	all := places()
	for i := range uint64(200) {
		all = append(all, place{5, 1000 + i}, place{1000 + i, 5}, place{lastIndex - 1000 - i, lastEpoch - 1000 + i}, place{rnd.Uint64() >> 32, 1 + rnd.Uint64()>>1})
	}
	whose := map[[16]byte]place{}
	seen := map[place]bool{}
	for _, at := range all {
		if seen[at] {
			continue
		}
		seen[at] = true
		b := api.Block(text(rnd, 32))
		for _, counter := range countersOf(t, key, mustSeal(t, seal.New(key), at.index, at.epoch, b), b) {
			if other, is := whose[counter]; is {
				t.Fatalf("%d and %d: both have the counter %x", at, other, counter)
			}
			whose[counter] = at
		}
	}
}

// TestUnlikeData is P7.3: one block at unlike places has unlike data, in both halves, and unlike tags; the same place has the same.
func TestUnlikeData(t *testing.T) {
	s, b := seal.New(counted()), api.Block{9}
	halves := map[[16]byte]place{}
	tags := map[[16]byte]place{}
	seen := map[place]bool{}
	for _, at := range places() {
		x := mustSeal(t, s, at.index, at.epoch, b)
		if mustSeal(t, s, at.index, at.epoch, b) != x {
			t.Fatalf("%d: sealed twice, and unlike", at)
		}
		if seen[at] {
			continue
		}
		seen[at] = true
		for _, half := range [][16]byte{[16]byte(x.Data[:16]), [16]byte(x.Data[16:])} {
			if other, is := halves[half]; is {
				t.Fatalf("%d and %d: both have %x", at, other, half)
			}
			halves[half] = at
		}
		if other, is := tags[x.Tag]; is {
			t.Fatalf("%d and %d: both have the tag %x", at, other, x.Tag)
		}
		tags[x.Tag] = at
	}
}
