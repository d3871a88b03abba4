package seal_test

import (
	"math/bits"
	"math/rand"
	"testing"

	"entrust/api"
	"entrust/seal"
)

// TestOpenedForItsIndex is P7.2: at every edge, what was sealed for an index is opened for it and for no other of the edges.
func TestOpenedForItsIndex(t *testing.T) {
	rnd := rand.New(rand.NewSource(6))
	s := seal.New(api.Key(text(rnd, 16)))
	for _, index := range indices() {
		for _, epoch := range epochs() {
			b := api.Block(text(rnd, 32))
			x := mustSeal(t, s, index, epoch, b)
			opens(t, s, index, x, b)
			refuses(t, s, index^1<<rnd.Intn(32), x, api.ErrAuth)
		}
		b := api.Block(text(rnd, 32))
		x := mustSeal(t, s, index, 1+rnd.Uint64()>>1, b)
		for _, other := range indices() {
			if other != index {
				refuses(t, s, other, x, api.ErrAuth)
			}
		}
		for _, other := range badIndices() {
			refuses(t, s, other, x, api.ErrRange)
		}
		opens(t, s, index, x, b)
	}
}

// TestIndexBits is P7.2: an index with any one bit inverted doesn't open; where that leaves the range it is ErrRange.
func TestIndexBits(t *testing.T) {
	s := seal.New(counted())
	for _, index := range []uint64{0, 0x01020304, lastIndex} {
		x := mustSeal(t, s, index, 3, api.Block{1})
		for bit := range 64 {
			want := error(api.ErrAuth)
			if bit >= 32 {
				want = api.ErrRange
			}
			refuses(t, s, index^1<<bit, x, want)
		}
	}
}

// TestOtherEpoch is P7.2: what was sealed in an epoch isn't opened with another one written before it.
func TestOtherEpoch(t *testing.T) {
	s := seal.New(counted())
	for _, epoch := range epochs() {
		x := mustSeal(t, s, 8, epoch, api.Block{1})
		for _, other := range epochs() {
			if other != epoch {
				refuses(t, s, 8, seal.Sealed{Epoch: other, Data: x.Data, Tag: x.Tag}, api.ErrAuth)
			}
		}
		for _, other := range badEpochs() {
			refuses(t, s, 8, seal.Sealed{Epoch: other, Data: x.Data, Tag: x.Tag}, api.ErrRange)
		}
	}
}

// TestBits is P7.2: with any one bit of its 56 bytes inverted, what was sealed isn't opened: ErrAuth, or ErrRange where the epoch leaves its range.
func TestBits(t *testing.T) {
	rnd := rand.New(rand.NewSource(7))
	for i, epoch := range []uint64{1, 2, 1 << 63, 0x05060708090a0b0c, lastEpoch, lastEpoch - 1} {
		s, index, b := seal.New(api.Key(text(rnd, 16))), indices()[2*i], api.Block(text(rnd, 32))
		whole := seal.Put(mustSeal(t, s, index, epoch, b))
		outside := 0
		for bit := range 8 * len(whole) {
			whole[bit/8] ^= 128 >> (bit % 8)
			x, err := seal.Parse(whole)
			if err != nil {
				t.Fatal(err)
			}
			want := error(api.ErrAuth)
			if x.Epoch == 0 || x.Epoch == lastEpoch+1 {
				want = api.ErrRange
				outside++
			}
			refuses(t, s, index, x, want)
			whole[bit/8] ^= 128 >> (bit % 8)
		}
		want := 0
		if n := bits.OnesCount64(epoch); n == 1 || n == 63 {
			want = 1
		}
		if outside != want {
			t.Errorf("epoch %d: %d bits lead out of range, not %d", epoch, outside, want)
		}
		x, err := seal.Parse(whole)
		if err != nil {
			t.Fatal(err)
		}
		opens(t, s, index, x, b)
	}
}

// TestOtherKeys is P7.2: what was sealed with a key isn't opened with another one, be it by one bit.
func TestOtherKeys(t *testing.T) {
	rnd := rand.New(rand.NewSource(8))
	key, b := api.Key(text(rnd, 16)), api.Block(text(rnd, 32))
	x := mustSeal(t, seal.New(key), 3, 4, b)
	for bit := range 128 {
		other := key
		other[bit/8] ^= 1 << (bit % 8)
		refuses(t, seal.New(other), 3, x, api.ErrAuth)
		y := mustSeal(t, seal.New(other), 3, 4, b)
		if y.Data == x.Data || y.Tag == x.Tag {
			t.Fatalf("keys %x and %x: %x and %x", key, other, x, y)
		}
	}
	refuses(t, nil, 3, x, api.ErrAuth)
	opens(t, seal.New(key), 3, x, b)
}

// TestMixed is P7.2: of two sealed blocks, neither part goes with the other's.
func TestMixed(t *testing.T) {
	s := seal.New(counted())
	a, b := mustSeal(t, s, 3, 4, api.Block{1}), mustSeal(t, s, 3, 4, api.Block{2})
	c := mustSeal(t, s, 3, 5, api.Block{1})
	for _, x := range []seal.Sealed{
		{Epoch: 4, Data: a.Data, Tag: b.Tag},
		{Epoch: 4, Data: b.Data, Tag: a.Tag},
		{Epoch: 4, Data: a.Data, Tag: c.Tag},
		{Epoch: 5, Data: a.Data, Tag: c.Tag},
		{Epoch: 5, Data: c.Data, Tag: a.Tag},
		{Epoch: 5, Data: a.Data, Tag: a.Tag},
		{Epoch: 4, Data: a.Data},
		{Epoch: 4, Tag: a.Tag},
		{Epoch: 4},
	} {
		refuses(t, s, 3, x, api.ErrAuth)
	}
}

// TestShortenedTag is P7.2: each byte of a tag counts, also where the rest of it is right.
func TestShortenedTag(t *testing.T) {
	s := seal.New(counted())
	x := mustSeal(t, s, 3, 4, api.Block{1})
	for n := range x.Tag {
		y := x
		clear(y.Tag[n:])
		if y.Tag != x.Tag {
			refuses(t, s, 3, y, api.ErrAuth)
		}
		y = x
		clear(y.Tag[:n+1])
		if y.Tag != x.Tag {
			refuses(t, s, 3, y, api.ErrAuth)
		}
	}
}
