package ctr_test

import (
	"bytes"
	libraryaes "crypto/aes"
	"crypto/cipher"
	"math"
	"math/rand"
	"testing"

	"entrust/aes"
	"entrust/api"
	"entrust/ctr"
)

// longest is how many bytes a stream has at most.
const longest = 65536

// libraryTurn is the turned bytes as Go's library has them.
func libraryTurn(t *testing.T, key api.Key, counter [16]byte, b []byte) []byte {
	t.Helper()
	c, err := libraryaes.NewCipher(key[:])
	if err != nil {
		t.Fatal(err)
	}
	out := make([]byte, len(b))
	cipher.NewCTR(c, counter[:]).XORKeyStream(out, b)
	return out
}

// defined is the first n bytes of the stream by the chapter's words: the encrypted counter, the encrypted counter plus 1, and so on.
func defined(c *aes.Cipher, counter [16]byte, n int) []byte {
	var out []byte
	for i := uint64(0); len(out) < n; i++ {
		b := c.Encrypt(next(counter, i))
		out = append(out, b[:]...)
	}
	return out[:n]
}

// checkTurn holds a stream, and bytes turned with it and turned again, against those of Go's library.
func checkTurn(t *testing.T, key api.Key, counter [16]byte, b []byte) {
	t.Helper()
	c := aes.New(key)
	stream, err := ctr.Stream(c, counter, len(b))
	if err != nil || len(stream) != len(b) || !bytes.Equal(stream, libraryTurn(t, key, counter, make([]byte, len(b)))) {
		t.Fatalf("key %x, counter %x: stream of %d bytes: %d, %v", key, counter, len(b), len(stream), err)
	}
	turned := ctr.Turn(c, counter, b)
	if len(turned) != len(b) || !bytes.Equal(turned, libraryTurn(t, key, counter, b)) {
		t.Fatalf("key %x, counter %x: %d bytes turned: %d", key, counter, len(b), len(turned))
	}
	if again := ctr.Turn(c, counter, turned); !bytes.Equal(again, b) {
		t.Fatalf("key %x, counter %x: %d bytes turned twice: others", key, counter, len(b))
	}
}

// TestPublished is P5.1 and P5.2: published examples of counter mode, of NIST's SP 800-38A (F.5.1 and F.5.2) and of RFC 3686 (section 6, test vectors 1 to 3): the stream, the text and the turned text.
func TestPublished(t *testing.T) {
	for i, x := range []struct{ key, counter, stream, text, turned string }{
		{
			"2b7e151628aed2a6abf7158809cf4f3c", "f0f1f2f3f4f5f6f7f8f9fafbfcfdfeff",
			"ec8cdf7398607cb0f2d21675ea9ea1e4362b7c3c6773516318a077d7fc5073ae6a2cc3787889374fbeb4c81b17ba6c44e89c399ff0f198c6d40a31db156cabfe",
			"6bc1bee22e409f96e93d7e117393172aae2d8a571e03ac9c9eb76fac45af8e5130c81c46a35ce411e5fbc1191a0a52eff69f2445df4f9b17ad2b417be66c3710",
			"874d6191b620e3261bef6864990db6ce9806f66b7970fdff8617187bb9fffdff5ae4df3edbd5d35e5b4f09020db03eab1e031dda2fbe03d1792170a0f3009cee",
		},
		{
			"ae6852f8121067cc4bf7a5765577f39e", "00000030000000000000000000000001",
			"b7603328dbc2931b410e16c8067e62df",
			"53696e676c6520626c6f636b206d7367",
			"e4095d4fb7a7b3792d6175a3261311b8",
		},
		{
			"7e24067817fae0d743d6ce1f32539163", "006cb6dbc0543b59da48d90b00000001",
			"5105a305128f74de71044be582d7dd87fb3f0cef52cf41dfe4ff2ac48d5ca037",
			"000102030405060708090a0b0c0d0e0f101112131415161718191a1b1c1d1e1f",
			"5104a106168a72d9790d41ee8edad388eb2e1efc46da57c8fce630df9141be28",
		},
		{
			"7691be035e5020a8ac6e618529f9a0dc", "00e0017b27777f3f4a1786f000000001",
			"c1ce4aab9b2afbdec74f58e2e3d67cd85551b638ca786e21cd8346f1b2ee0e4c0593250c",
			"000102030405060708090a0b0c0d0e0f101112131415161718191a1b1c1d1e1f20212223",
			"c1cf48a89f2ffdd9cf4652e9efdb72d74540a42bde6d7836d59a5ceaaef3105325b2072f",
		},
	} {
		key, counter, b := api.Key(block(t, x.key)), block(t, x.counter), text(t, x.text)
		checkTurn(t, key, counter, b)
		stream, err := ctr.Stream(aes.New(key), counter, len(b))
		if err != nil || !bytes.Equal(stream, text(t, x.stream)) {
			t.Errorf("%d: stream %x, %v", i, stream, err)
		}
		if turned := ctr.Turn(aes.New(key), counter, b); !bytes.Equal(turned, text(t, x.turned)) {
			t.Errorf("%d: turned %x", i, turned)
		}
	}
}

// TestLengths is P5.1 and P5.2: texts of every length up to that of several blocks, with counters that wrap around within them, and some long ones; Turn has no greatest length.
func TestLengths(t *testing.T) {
	rnd := rand.New(rand.NewSource(3))
	for n := range 200 {
		b := make([]byte, n)
		rnd.Read(b)
		for _, counter := range [][16]byte{{}, full(), random(rnd), ctr.Next(full(), math.MaxUint64), next(full(), uint64(rnd.Intn(12)))} {
			checkTurn(t, random(rnd), counter, b)
		}
	}
	for _, n := range []int{4095, 4096, 4097, longest - 17, longest - 16, longest - 15, longest - 1, longest} {
		b := make([]byte, n)
		rnd.Read(b)
		checkTurn(t, random(rnd), random(rnd), b)
	}
	for _, n := range []int{longest + 1, longest + 16, longest + 17, 3*longest + 5} {
		b := make([]byte, n)
		rnd.Read(b)
		key, counter := api.Key(random(rnd)), random(rnd)
		if got := ctr.Turn(aes.New(key), counter, b); !bytes.Equal(got, libraryTurn(t, key, counter, b)) {
			t.Errorf("%d bytes turned: %d, or others", n, len(got))
		}
	}
}

// TestWraps is P5.1: streams in which the counter wraps around, by the chapter's words: behind the counter of 16 bytes 255 comes that of zeros, and nothing else is carried.
func TestWraps(t *testing.T) {
	rnd := rand.New(rand.NewSource(4))
	for _, counter := range counters(rnd) {
		key := api.Key(random(rnd))
		c := aes.New(key)
		got, err := ctr.Stream(c, counter, 70)
		if err != nil || !bytes.Equal(got, defined(c, counter, 70)) {
			t.Fatalf("key %x, counter %x: %x, %v", key, counter, got, err)
		}
	}
	c := aes.New(random(rnd))
	last, first := c.Encrypt(full()), c.Encrypt([16]byte{})
	if got, err := ctr.Stream(c, full(), 32); err != nil || [16]byte(got) != last || [16]byte(got[16:]) != first {
		t.Errorf("from 255s on: %x, %v, not %x %x", got, err, last, first)
	}
}

// TestStreamRange is P5.1: there are streams of 0 bytes and of 65536, and none of -1, of 65537 and of any other number below or beyond; beside the error there are no bytes.
func TestStreamRange(t *testing.T) {
	c := aes.New(api.Key{1})
	for _, n := range []int{0, 1, 15, 16, 17, longest - 1, longest} {
		if got, err := ctr.Stream(c, [16]byte{2}, n); len(got) != n || err != nil {
			t.Errorf("%d: %d bytes, %v", n, len(got), err)
		}
	}
	for _, n := range []int{-1, -2, -16, -longest, -longest - 1, longest + 1, longest + 16, 2 * longest, 1 << 31, 1 << 32, 1<<32 + 16, -1 << 32, math.MaxInt, math.MinInt, math.MinInt + 16} {
		for _, c := range []*aes.Cipher{c, nil} {
			if got, err := ctr.Stream(c, [16]byte{2}, n); got != nil || err != api.ErrRange {
				t.Errorf("%d: %d bytes, %v", n, len(got), err)
			}
		}
	}
}

// TestNilCipher is P5.1: without a cipher, the stream is that of the key of zeros.
func TestNilCipher(t *testing.T) {
	rnd := rand.New(rand.NewSource(5))
	if got, err := ctr.Stream(nil, [16]byte{}, 16); err != nil || !bytes.Equal(got, text(t, "66e94bd4ef8a2c3b884cfa59ca342b2e")) {
		t.Errorf("%x, %v", got, err)
	}
	for n := range 100 {
		counter, b := random(rnd), make([]byte, n)
		rnd.Read(b)
		got, err := ctr.Stream(nil, counter, n)
		if err != nil || !bytes.Equal(got, libraryTurn(t, api.Key{}, counter, make([]byte, n))) {
			t.Fatalf("counter %x: %x, %v", counter, got, err)
		}
		turned := ctr.Turn(nil, counter, b)
		if !bytes.Equal(turned, libraryTurn(t, api.Key{}, counter, b)) || !bytes.Equal(ctr.Turn(nil, counter, turned), b) {
			t.Fatalf("counter %x: %x turned is %x", counter, b, turned)
		}
	}
}

// TestNothingToTurn is P5.1: no bytes turn into none, whatever the slice and the cipher are.
func TestNothingToTurn(t *testing.T) {
	for _, c := range []*aes.Cipher{nil, aes.New(api.Key{3})} {
		for _, b := range [][]byte{nil, {}, make([]byte, 0, 32), []byte("abc")[3:]} {
			if got := ctr.Turn(c, full(), b); len(got) != 0 {
				t.Errorf("%x", got)
			}
		}
		if got, err := ctr.Stream(c, full(), 0); len(got) != 0 || err != nil {
			t.Errorf("stream: %x, %v", got, err)
		}
	}
}

// TestLater is P5.2: from each block on, a stream is that of the counter that is so much later, also where the counter wraps around; and so are the turned bytes.
func TestLater(t *testing.T) {
	rnd := rand.New(rand.NewSource(6))
	for _, counter := range [][16]byte{{}, full(), random(rnd), next(full(), math.MaxUint64-3), next([16]byte{}, math.MaxUint64-5), {15: 250}} {
		c := aes.New(random(rnd))
		const n = 16*300 + 7
		whole, err := ctr.Stream(c, counter, n)
		if err != nil {
			t.Fatal(err)
		}
		b := make([]byte, n)
		rnd.Read(b)
		turned := ctr.Turn(c, counter, b)
		for _, i := range []int{0, 1, 2, 3, 5, 6, 7, 255, 256, 257, 300} {
			later := ctr.Next(counter, uint64(i))
			got, err := ctr.Stream(c, later, n-16*i)
			if err != nil || !bytes.Equal(got, whole[16*i:]) {
				t.Fatalf("counter %x, from block %d on: another stream, %v", counter, i, err)
			}
			if !bytes.Equal(ctr.Turn(c, later, b[16*i:]), turned[16*i:]) {
				t.Fatalf("counter %x, from block %d on: turned into others", counter, i)
			}
		}
	}
}

// TestShorter is P5.1: a stream begins with each shorter one.
func TestShorter(t *testing.T) {
	rnd := rand.New(rand.NewSource(7))
	c, counter := aes.New(random(rnd)), random(rnd)
	whole, err := ctr.Stream(c, counter, longest)
	if err != nil {
		t.Fatal(err)
	}
	for n := 0; n < longest; n += 1 + n/3 {
		if got, err := ctr.Stream(c, counter, n); err != nil || !bytes.Equal(got, whole[:n]) {
			t.Errorf("%d bytes: others, %v", n, err)
		}
	}
}

// TestTurnIsXor is P5.1: bytes are turned by XOR with the stream, each at its own place.
func TestTurnIsXor(t *testing.T) {
	rnd := rand.New(rand.NewSource(8))
	c, counter := aes.New(random(rnd)), random(rnd)
	const n = 50
	stream, err := ctr.Stream(c, counter, n)
	if err != nil {
		t.Fatal(err)
	}
	if got := ctr.Turn(c, counter, stream); !bytes.Equal(got, make([]byte, n)) {
		t.Errorf("the stream turned: %x", got)
	}
	for i := range 8 * n {
		b, want := make([]byte, n), bytes.Clone(stream)
		b[i/8] = 1 << (i % 8)
		want[i/8] ^= 1 << (i % 8)
		if got := ctr.Turn(c, counter, b); !bytes.Equal(got, want) {
			t.Fatalf("bit %d: %x, not %x", i, got, want)
		}
	}
}
