package seal_test

import (
	"bytes"
	libraryaes "crypto/aes"
	"crypto/cipher"
	libraryhmac "crypto/hmac"
	"crypto/sha256"
	"encoding/binary"
	"encoding/hex"
	"math"
	"math/rand"
	"testing"

	"entrust/aes"
	"entrust/api"
	"entrust/ctr"
	"entrust/hmac"
	"entrust/keys"
	"entrust/seal"
)

// The greatest index and epoch, written as the chapter has them.
const (
	lastIndex = 1<<32 - 1
	lastEpoch = 1<<64 - 2
)

// libraryMac is the tag of a text, as Go's library has it.
func libraryMac(key, text []byte) []byte {
	h := libraryhmac.New(sha256.New, key)
	h.Write(text)
	return h.Sum(nil)
}

// libraryTurned is a block turned, as Go's library has it.
func libraryTurned(t *testing.T, key, counter []byte, b api.Block) api.Block {
	t.Helper()
	c, err := libraryaes.NewCipher(key)
	if err != nil {
		t.Fatal(err)
	}
	cipher.NewCTR(c, counter).XORKeyStream(b[:], b[:])
	return b
}

// placeBytes are an index and an epoch, byte by byte.
func placeBytes(index, epoch uint64) []byte {
	return binary.BigEndian.AppendUint64(binary.BigEndian.AppendUint32(nil, uint32(index)), epoch)
}

// librarySealed is a sealed block, made of the chapter's words with Go's library alone.
func librarySealed(t *testing.T, key api.Key, index, epoch uint64, b api.Block) seal.Sealed {
	t.Helper()
	enc := libraryMac(key[:], []byte("entrust seal"))[:16]
	tag := libraryMac(key[:], []byte("entrust tag"))
	at := placeBytes(index, epoch)
	x := seal.Sealed{Epoch: epoch, Data: libraryTurned(t, enc, append(placeBytes(index, epoch), 0, 0, 0, 0), b)}
	copy(x.Tag[:], libraryMac(tag, append(at, x.Data[:]...))[:16])
	return x
}

// layersSealed is a sealed block, made of the chapter's words with the layers below.
func layersSealed(key api.Key, index, epoch uint64, b api.Block) seal.Sealed {
	set := keys.Of(key)
	at := placeBytes(index, epoch)
	x := seal.Sealed{Epoch: epoch}
	copy(x.Data[:], ctr.Turn(aes.New(set.Enc), [16]byte(append(at, 0, 0, 0, 0)), b[:]))
	copy(x.Tag[:], hmac.Short(set.Tag[:], at[:12], x.Data[:]))
	return x
}

// text is n random bytes.
func text(rnd *rand.Rand, n int) []byte {
	b := make([]byte, n)
	rnd.Read(b)
	return b
}

// counted is the key of the bytes 0 to 15.
func counted() api.Key {
	return api.Key{0, 1, 2, 3, 4, 5, 6, 7, 8, 9, 10, 11, 12, 13, 14, 15}
}

// ones is the key of 16 bytes 255.
func ones() api.Key {
	return api.Key(bytes.Repeat([]byte{255}, 16))
}

// indices are indices at the edges of what is in range, of their bytes, and of 31 bits.
func indices() []uint64 {
	return []uint64{0, 1, 2, 255, 256, 65535, 65536, 1<<24 - 1, 1 << 24, 0x01020304, 1<<31 - 1, 1 << 31, lastIndex - 1, lastIndex}
}

// epochs are epochs at the edges of what is in range, of their bytes, of 32 bits and of 63.
func epochs() []uint64 {
	return []uint64{1, 2, 255, 256, 65535, 65536, 1<<32 - 1, 1 << 32, 1<<32 + 1, 0x05060708090a0b0c, 1 << 56, 1<<63 - 1, 1 << 63, lastEpoch - 1, lastEpoch}
}

// badIndices are indices out of range.
func badIndices() []uint64 {
	return []uint64{lastIndex + 1, lastIndex + 2, 1 << 33, 1 << 40, 1 << 63, math.MaxUint64 - 1, math.MaxUint64}
}

// badEpochs are epochs out of range: there are no others.
func badEpochs() []uint64 {
	return []uint64{0, math.MaxUint64}
}

// mustSeal is a sealed block, of what is in range.
func mustSeal(t *testing.T, s *seal.Sealer, index, epoch uint64, b api.Block) seal.Sealed {
	t.Helper()
	x, err := s.Seal(index, epoch, b)
	if err != nil {
		t.Fatalf("index %d, epoch %d: %v", index, epoch, err)
	}
	return x
}

// opens fails unless what is sealed is opened as the block.
func opens(t *testing.T, s *seal.Sealer, index uint64, x seal.Sealed, want api.Block) {
	t.Helper()
	if b, err := s.Open(index, x); err != nil || b != want {
		t.Fatalf("index %d, %x: %x and %v, not %x", index, x, b, err, want)
	}
}

// refuses fails unless Open answers an error and zeros.
func refuses(t *testing.T, s *seal.Sealer, index uint64, x seal.Sealed, want error) {
	t.Helper()
	if b, err := s.Open(index, x); err != want || b != (api.Block{}) {
		t.Fatalf("index %d, %x: %x and %v, not %v", index, x, b, err, want)
	}
}

// known are sealed blocks that other programs (Python's hmac, and OpenSSL in counter mode) made.
func known() []struct {
	key          api.Key
	index, epoch uint64
	b            api.Block
	sealed       string
} {
	zeros, full := api.Block{}, api.Block(bytes.Repeat([]byte{255}, 32))
	steps := api.Block{}
	for i := range steps {
		steps[i] = byte(i)
	}
	return []struct {
		key          api.Key
		index, epoch uint64
		b            api.Block
		sealed       string
	}{
		{api.Key{}, 0, 1, zeros, "00000000000000019af02c6e00a313d7f29e5b88b80b4b3691d067335752586db6c5d9157064f0673fe40681f9ec5218e95b5f8d325117ab"},
		{api.Key{}, 0, 1, steps, "00000000000000019af12e6d04a615d0fa975183b406453981c1752043474e7aaedcc30e6c79ee78e5ea180be40ca54daa27230e0ec4da24"},
		{api.Key{}, 1, 1, zeros, "0000000000000001d66f54eecab4076b81af5de388fec38d7cb0a1b7caef585ff57a29c79ab143fc0502ccf763c1b3d28a5a3863e79a3efa"},
		{api.Key{}, 0, 2, zeros, "0000000000000002ca686f440ce71492ed042359ea1029ca8e8ccb46ffb4c9b106cd0f697ff2ccc7fa7b03a3b8d71546aac8f6b0a5a3ab16"},
		{api.Key{}, 0x01020304, 0x05060708090a0b0c, steps, "05060708090a0b0c69d657b74b77188a6e460879024dbca0ed1003b3fc538e31918d7bd199978d237b1933e1ff2f42e5f0338d89bcc13b9d"},
		{api.Key{}, lastIndex, lastEpoch, full, "fffffffffffffffe9283a9ce368fd0f3c9223239a24f55ce9bdad8ff94ead3e628719d4475f93864fe664370722d0625339173d420d98876"},
		{counted(), 0, 1, zeros, "00000000000000014bdffe85a43b3bec21ecd75f9628a5dcc0bed5d7ceb1561f1a89b1452c784b0e64e2b7c76ddf022927373e2cb84a7b69"},
		{counted(), 1, 1, zeros, "0000000000000001c8333cef19e81e260fd5e70dc84781f39c3cf0dbe5fa396ed5cb7dc1c9f4f4ebe659e72c55ab7ae4ee2a00e13eaf96da"},
		{counted(), 0, 2, zeros, "0000000000000002162ee8ce031c255aba58efa399e1ee1873a35c1b30589fa193eaa7ca6ca23f4189adbe0a6683c3c87cefba5bb5cdd4e5"},
		{counted(), 0x01020304, 0x05060708090a0b0c, steps, "05060708090a0b0cb7d8e01abf3d1d6affeeea4185245b9afb201243db7527f076816bfd9aa1e108c3b79c754e29840516f9f11022ba11ba"},
		{counted(), lastIndex, lastEpoch, full, "fffffffffffffffe9db1181d9e395a4c85785b7a8fef57147ffc87ac9a855b22e3d86f1bd7201c869b14ec037670e7623e0bb726d92e0ccc"},
		{ones(), 0x01020304, 0x05060708090a0b0c, steps, "05060708090a0b0c2a8cebbc6fa0d854d3501775cc4b04f8886d87815ee83ea8ffc29bb0b5e1caaf4e0145b970a5b33d406f92f031fd928c"},
		{ones(), lastIndex, lastEpoch, full, "fffffffffffffffe77651dedaa366472a5db6fc35706efd0228c2f28ea19d7fbcee4a457aa377efe30d4bb9571f3068e4aa4a98d586dc380"},
	}
}

// TestKnown is P7.1: the sealed blocks that other programs made, there and back.
func TestKnown(t *testing.T) {
	for _, k := range known() {
		want, err := hex.DecodeString(k.sealed)
		if err != nil || len(want) != 56 {
			t.Fatal(k.sealed, len(want), err)
		}
		s := seal.New(k.key)
		x := mustSeal(t, s, k.index, k.epoch, k.b)
		if got := seal.Put(x); !bytes.Equal(got, want) {
			t.Errorf("key %x, index %d, epoch %d: %x, not %x", k.key, k.index, k.epoch, got, want)
		}
		parsed, err := seal.Parse(want)
		if err != nil || parsed != x {
			t.Errorf("%x: %x and %v, not %x", want, parsed, err, x)
		}
		opens(t, s, k.index, parsed, k.b)
	}
}

// TestExample is P7.1: the chapter's example.
func TestExample(t *testing.T) {
	s, b := seal.New(api.Key{7}), api.Block{1, 2, 3}
	x := mustSeal(t, s, 0, 1, b)
	opens(t, s, 0, x, b)
	refuses(t, s, 1, x, api.ErrAuth)
}

// TestSeal is P7.1: sealed blocks at the edges and at random, by Go's library and by the layers below.
func TestSeal(t *testing.T) {
	rnd := rand.New(rand.NewSource(1))
	for _, key := range []api.Key{{}, ones(), counted(), api.Key(text(rnd, 16))} {
		s := seal.New(key)
		try := func(index, epoch uint64, b api.Block) {
			x := mustSeal(t, s, index, epoch, b)
			if want := librarySealed(t, key, index, epoch, b); x != want {
				t.Fatalf("key %x, index %d, epoch %d, %x: %x, not %x", key, index, epoch, b, x, want)
			}
			if want := layersSealed(key, index, epoch, b); x != want {
				t.Fatalf("key %x, index %d, epoch %d, %x: %x, not %x of the layers below", key, index, epoch, b, x, want)
			}
			opens(t, s, index, x, b)
		}
		for _, index := range indices() {
			for _, epoch := range epochs() {
				try(index, epoch, api.Block(text(rnd, 32)))
			}
		}
		for _, b := range []api.Block{{}, {31: 1}, {1}, api.Block(bytes.Repeat([]byte{255}, 32))} {
			try(rnd.Uint64()>>32, 1+rnd.Uint64()>>1, b)
		}
	}
	for range 200 {
		key, index, epoch, b := api.Key(text(rnd, 16)), rnd.Uint64()>>32, 1+rnd.Uint64()>>1, api.Block(text(rnd, 32))
		if got, want := mustSeal(t, seal.New(key), index, epoch, b), librarySealed(t, key, index, epoch, b); got != want {
			t.Fatalf("key %x, index %d, epoch %d, %x: %x, not %x", key, index, epoch, b, got, want)
		}
	}
}

// TestTagged is P7.1: what is tagged is the index in four bytes, the epoch in eight and the data, in this order and with nothing between, and the tag is the first half of the whole one.
func TestTagged(t *testing.T) {
	set := keys.Of(counted())
	x := mustSeal(t, seal.New(counted()), 0x01020304, 0x05060708090a0b0c, api.Block{1, 2, 3})
	tagged := append([]byte{1, 2, 3, 4, 5, 6, 7, 8, 9, 10, 11, 12}, x.Data[:]...)
	whole := libraryMac(set.Tag[:], tagged)
	if !bytes.Equal(x.Tag[:], whole[:16]) {
		t.Errorf("%x, not %x", x.Tag, whole[:16])
	}
	again := seal.Sealed{Epoch: x.Epoch, Data: x.Data, Tag: [16]byte(whole[:16])}
	opens(t, seal.New(counted()), 0x01020304, again, api.Block{1, 2, 3})
	again.Tag = [16]byte(whole[16:])
	refuses(t, seal.New(counted()), 0x01020304, again, api.ErrAuth)
}

// TestForeignData is P7.1: data that nobody sealed, with its right tag, is opened as what it turns into.
func TestForeignData(t *testing.T) {
	rnd := rand.New(rand.NewSource(2))
	for range 50 {
		key, index, epoch := api.Key(text(rnd, 16)), rnd.Uint64()>>32, 1+rnd.Uint64()>>1
		set := keys.Of(key)
		x := seal.Sealed{Epoch: epoch, Data: api.Block(text(rnd, 32))}
		copy(x.Tag[:], libraryMac(set.Tag[:], append(placeBytes(index, epoch), x.Data[:]...)))
		opens(t, seal.New(key), index, x, libraryTurned(t, set.Enc[:], append(placeBytes(index, epoch), 0, 0, 0, 0), x.Data))
	}
}

// TestRight is P7.1: what is in range, and what isn't, at every edge.
func TestRight(t *testing.T) {
	all := func(good, bad []uint64) []uint64 { return append(append([]uint64{}, good...), bad...) }
	for i, index := range all(indices(), badIndices()) {
		for j, epoch := range all(epochs(), badEpochs()) {
			want := i < len(indices()) && j < len(epochs())
			if got := seal.Right(index, epoch); got != want {
				t.Errorf("index %d, epoch %d: %v", index, epoch, got)
			}
		}
	}
	rnd := rand.New(rand.NewSource(3))
	for range 1000 {
		index, epoch := rnd.Uint64()>>rnd.Intn(64), rnd.Uint64()>>rnd.Intn(65)
		if got, want := seal.Right(index, epoch), index <= lastIndex && epoch != 0 && epoch <= lastEpoch; got != want {
			t.Errorf("index %d, epoch %d: %v", index, epoch, got)
		}
	}
	if api.MaxBlocks-1 != lastIndex || uint64(api.MaxEpoch-1) != lastEpoch {
		t.Error("the limits are others")
	}
}

// TestOutOfRange is P7.1: Seal and Open answer ErrRange and zeros out of range, also where the tag would be right or wrong, and for a nil *Sealer.
func TestOutOfRange(t *testing.T) {
	rnd := rand.New(rand.NewSource(4))
	b := api.Block(text(rnd, 32))
	for _, s := range []*seal.Sealer{nil, seal.New(api.Key{}), seal.New(counted())} {
		try := func(index, epoch uint64) {
			if x, err := s.Seal(index, epoch, b); err != api.ErrRange || x != (seal.Sealed{}) {
				t.Errorf("index %d, epoch %d: %x and %v", index, epoch, x, err)
			}
			refuses(t, s, index, seal.Sealed{Epoch: epoch}, api.ErrRange)
			refuses(t, s, index, seal.Sealed{Epoch: epoch, Data: b, Tag: [16]byte(text(rnd, 16))}, api.ErrRange)
			for _, key := range []api.Key{{}, counted()} {
				refuses(t, s, index, librarySealed(t, key, index, epoch, b), api.ErrRange)
			}
		}
		for _, index := range append(indices(), badIndices()...) {
			for _, epoch := range badEpochs() {
				try(index, epoch)
			}
		}
		for _, index := range badIndices() {
			for _, epoch := range epochs() {
				try(index, epoch)
			}
		}
	}
}

// TestIndexIsNotCut is P7.1: an index isn't taken for the one that its last four bytes are.
func TestIndexIsNotCut(t *testing.T) {
	s := seal.New(counted())
	x := mustSeal(t, s, 5, 9, api.Block{1})
	refuses(t, s, 1<<32+5, x, api.ErrRange)
	refuses(t, s, 1<<63+5, x, api.ErrRange)
	opens(t, s, 5, x, api.Block{1})
}

// TestNilSealer is P7.1: a nil *Sealer seals and opens with the key of zeros, and with no other.
func TestNilSealer(t *testing.T) {
	rnd := rand.New(rand.NewSource(5))
	var none *seal.Sealer
	zeros, other := seal.New(api.Key{}), seal.New(counted())
	for _, index := range indices() {
		for _, epoch := range epochs() {
			b := api.Block(text(rnd, 32))
			x := mustSeal(t, none, index, epoch, b)
			if want := librarySealed(t, api.Key{}, index, epoch, b); x != want {
				t.Fatalf("index %d, epoch %d: %x, not %x", index, epoch, x, want)
			}
			opens(t, none, index, x, b)
			opens(t, zeros, index, x, b)
			opens(t, none, index, mustSeal(t, zeros, index, epoch, b), b)
			refuses(t, other, index, x, api.ErrAuth)
			refuses(t, none, index, mustSeal(t, other, index, epoch, b), api.ErrAuth)
		}
	}
}
