package hmac_test

import (
	"bytes"
	libraryhmac "crypto/hmac"
	"crypto/sha256"
	"encoding/hex"
	"math/rand"
	"slices"
	"strings"
	"testing"

	"entrust/api"
	"entrust/hmac"
	"entrust/sha"
)

// text is n random bytes.
func text(rnd *rand.Rand, n int) []byte {
	b := make([]byte, n)
	rnd.Read(b)
	return b
}

// counted is n bytes, from that one on, each one more than the one before it.
func counted(from, n int) string {
	b := make([]byte, n)
	for i := range b {
		b[i] = byte(from + i)
	}
	return string(b)
}

// keyLengths are the lengths of keys at which the padding, or the hash in the key's place, begins or ends, and some between and beyond them.
func keyLengths() []int {
	return []int{0, 1, 15, 16, 31, 32, 33, 55, 56, 62, 63, 64, 65, 66, 119, 120, 127, 128, 129, 200, 1000}
}

// libraryMac is the tag as Go's library has it.
func libraryMac(key, b []byte) api.Hash {
	h := libraryhmac.New(sha256.New, key)
	h.Write(b)
	return api.Hash(h.Sum(nil))
}

// published are published examples of HMAC with SHA-256: those of RFC 4231 in their order, of which the fifth has the short tag only; those that NIST gives for FIPS 198-1; the empty text with the empty key, which the chapter names too; and a well-known sentence.
func published() []struct{ key, text, tag string } {
	return []struct{ key, text, tag string }{
		{strings.Repeat("\x0b", 20), "Hi There", "b0344c61d8db38535ca8afceaf0bf12b881dc200c9833da726e9376c2e32cff7"},
		{"Jefe", "what do ya want for nothing?", "5bdcc146bf60754e6a042426089575c75a003f089d2739839dec58b964ec3843"},
		{strings.Repeat("\xaa", 20), strings.Repeat("\xdd", 50), "773ea91e36800e46854db8ebd09181a72959098b3ef8c122d9635514ced565fe"},
		{counted(1, 25), strings.Repeat("\xcd", 50), "82558a389a443c0ea4cc819899f2083a85f0faa3e578f8077a2e3ff46729665b"},
		{strings.Repeat("\x0c", 20), "Test With Truncation", "a3b6167473100ee06e0c796c2955552b"},
		{strings.Repeat("\xaa", 131), "Test Using Larger Than Block-Size Key - Hash Key First", "60e431591ee0b67f0d8a26aacbf5b77f8e0bc6213728c5140546040f0ee37f54"},
		{strings.Repeat("\xaa", 131), "This is a test using a larger than block-size key and a larger than block-size data. The key needs to be hashed before being used by the HMAC algorithm.", "9b09ffa71b942fcb27635fbcd5b0e944bfdc63644f0713938a7f51535c3a35e2"},
		{counted(0, 64), "Sample message for keylen=blocklen", "8bb9a1db9806f20df7f77b82138c7914d174d59e13dc4d0169c9057b133e1d62"},
		{counted(0, 32), "Sample message for keylen<blocklen", "a28cf43130ee696a98f14a37678b56bcfcbdd9e5cf69717fecf5480f0ebdf790"},
		{counted(0, 100), "Sample message for keylen=blocklen", "bdccb6c72ddeadb500ae768386cb38cc41c63dbb0878ddb9c7a38a431b78378d"},
		{counted(0, 49), "Sample message for keylen<blocklen, with truncated tag", "27a8b157839efeac98df070b331d5936"},
		{"", "", "b613679a0814d9ec772f95d778c35fc5ff1697c493715653c6c712144292c5ad"},
		{"key", "The quick brown fox jumps over the lazy dog", "f7bc83f430538424b13298e6aa6fb143ef4d59a14946175997479dbc2d1a3cd8"},
	}
}

// TestPublished is P3.1 and P3.2: the published examples' tags, which Check accepts whole and short.
func TestPublished(t *testing.T) {
	for i, x := range published() {
		key, b := []byte(x.key), []byte(x.text)
		want, err := hex.DecodeString(x.tag)
		if err != nil {
			t.Fatal(err)
		}
		whole := hmac.Mac(key, b)
		if !bytes.Equal(whole[:len(want)], want) || !bytes.Equal(hmac.Short(key, b), want[:16]) {
			t.Errorf("%d: %x, short %x", i, whole, hmac.Short(key, b))
		}
		if !hmac.Check(want, key, b) || !hmac.Check(want[:16], key, b) {
			t.Errorf("%d: rejected", i)
		}
	}
}

// TestMac is P3.1: keys and texts of every length up to that of several blocks, and of bytes that the masks' own bytes might be taken for.
func TestMac(t *testing.T) {
	rnd := rand.New(rand.NewSource(1))
	for n := range 200 {
		for _, b := range [][]byte{nil, text(rnd, n), text(rnd, rnd.Intn(300)), bytes.Repeat([]byte{54}, n)} {
			for _, key := range [][]byte{text(rnd, n), make([]byte, n), bytes.Repeat([]byte{54}, n), bytes.Repeat([]byte{92}, n), bytes.Repeat([]byte{255}, n)} {
				want := libraryMac(key, b)
				if h := hmac.Mac(key, b); h != want || !bytes.Equal(hmac.Short(key, b), want[:16]) {
					t.Fatalf("key %x, text %x: %x, short %x", key, b, h, hmac.Short(key, b))
				}
			}
		}
	}
	for range 20 {
		key, b := text(rnd, rnd.Intn(1<<12)), text(rnd, rnd.Intn(1<<16))
		if h := hmac.Mac(key, b); h != libraryMac(key, b) {
			t.Fatalf("key of %d bytes, text of %d: %x", len(key), len(b), h)
		}
	}
}

// TestMacOfHashes is P3.1: the tag is what the chapter's words have it be, of layer 2's hashes and the block key.
func TestMacOfHashes(t *testing.T) {
	rnd := rand.New(rand.NewSource(2))
	for _, n := range keyLengths() {
		key, b := text(rnd, n), text(rnd, rnd.Intn(100))
		var inner, outer []byte
		for _, x := range hmac.Block(key) {
			inner, outer = append(inner, x^54), append(outer, x^92)
		}
		h := sha.Of(inner, b)
		if got := hmac.Mac(key, b); got != sha.Of(outer, h[:]) {
			t.Errorf("key of %d bytes: %x", n, got)
		}
	}
}

// TestBlock is P3.1: a key up to 64 bytes stays as it is, a longer one is hashed, and zeros follow; the key that is made thus has the same tags.
func TestBlock(t *testing.T) {
	rnd := rand.New(rand.NewSource(3))
	for n := range 200 {
		for _, key := range [][]byte{text(rnd, n), bytes.Repeat([]byte{255}, n)} {
			var want [64]byte
			if n <= 64 {
				copy(want[:], key)
			} else {
				h := sha256.Sum256(key)
				copy(want[:], h[:])
			}
			block := hmac.Block(key)
			if block != want {
				t.Fatalf("key %x: %x", key, block)
			}
			if hmac.Block(block[:]) != block || hmac.Mac(block[:], key) != hmac.Mac(key, key) {
				t.Fatalf("key %x: another one than its block key", key)
			}
		}
	}
	if hmac.Block(nil) != [64]byte{} || hmac.Block([]byte{}) != [64]byte{} {
		t.Error("the empty key's block key isn't zeros")
	}
}

// TestParts is P3.1: no part, one, and several, wherever the text is divided, for keys at the edges.
func TestParts(t *testing.T) {
	rnd := rand.New(rand.NewSource(4))
	for _, n := range keyLengths() {
		key := text(rnd, n)
		empty := libraryMac(key, nil)
		for i, h := range []api.Hash{hmac.Mac(key), hmac.Mac(key, nil), hmac.Mac(key, []byte{}), hmac.Mac(key, nil, []byte{}, nil), hmac.Mac(key, make([][]byte, 1000)...)} {
			if h != empty {
				t.Errorf("key of %d bytes, empty text %d: %x", n, i, h)
			}
		}
		b := text(rnd, 40+rnd.Intn(60))
		for i := range len(b) + 1 {
			checkParts(t, key, b, [][]byte{b[:i], b[i:]})
			checkParts(t, key, b, [][]byte{nil, b[:i], {}, b[i:], nil})
			j := i + rnd.Intn(len(b)-i+1)
			checkParts(t, key, b, [][]byte{b[:i], b[i:j], b[j:]})
		}
		checkParts(t, key, b, slices.Collect(slices.Chunk(b, 1)))
	}
	key := []byte("key")
	if hmac.Mac(key, []byte("a"), []byte("b")) == hmac.Mac(key, []byte("b"), []byte("a")) || hmac.Mac([]byte("ke"), []byte("y")) == hmac.Mac(key) {
		t.Error("order of parts, or a part of the key")
	}
}

// checkParts holds the tags of parts against that of the whole text.
func checkParts(t *testing.T, key, whole []byte, parts [][]byte) {
	t.Helper()
	want := libraryMac(key, whole)
	if h, short := hmac.Mac(key, parts...), hmac.Short(key, parts...); h != want || !bytes.Equal(short, want[:16]) {
		t.Fatalf("key %x, parts %x: %x, short %x", key, parts, h, short)
	}
	if !hmac.Check(want[:], key, parts...) || !hmac.Check(want[:16], key, parts...) {
		t.Fatalf("key %x, parts %x: rejected", key, parts)
	}
}

// TestKeysWithOneTag is P3.1: zeros at a key's end change nothing up to 64 bytes, and do beyond them; nor is a key of 65 bytes its first 64.
func TestKeysWithOneTag(t *testing.T) {
	rnd := rand.New(rand.NewSource(5))
	key, b := text(rnd, 63), text(rnd, 20)
	padded := append(key, 0, 0)
	if hmac.Mac(key, b) != hmac.Mac(padded[:64], b) || hmac.Mac(key, b) == hmac.Mac(padded, b) {
		t.Error("zeros at the end of a key")
	}
	if hmac.Mac(nil, b) != hmac.Mac(make([]byte, 64), b) || hmac.Mac(nil, b) == hmac.Mac(make([]byte, 65), b) {
		t.Error("keys of zeros")
	}
}

// TestShort is P3.1: the short tag has 16 bytes.
func TestShort(t *testing.T) {
	rnd := rand.New(rand.NewSource(6))
	for _, n := range keyLengths() {
		key := text(rnd, n)
		whole := hmac.Mac(key, key)
		if short := hmac.Short(key, key); len(short) != api.TagSize || !bytes.Equal(short, whole[:16]) {
			t.Errorf("key of %d bytes: %x", n, short)
		}
	}
}
