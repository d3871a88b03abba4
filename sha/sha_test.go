package sha_test

import (
	"bytes"
	"crypto/sha256"
	"encoding/hex"
	"math/rand"
	"slices"
	"strings"
	"testing"

	"entrust/api"
	"entrust/sha"
)

// text is n random bytes.
func text(rnd *rand.Rand, n int) []byte {
	b := make([]byte, n)
	rnd.Read(b)
	return b
}

// edges are the lengths of texts at which a block, or the room for a text in its last block, begins or ends.
func edges() []int {
	return []int{0, 1, 2, 54, 55, 56, 57, 62, 63, 64, 65, 66, 118, 119, 120, 121, 127, 128, 129, 183, 184, 191, 192, 193}
}

// TestPublished is P2.1: the published examples of SHA-256, those of FIPS 180-4 first.
func TestPublished(t *testing.T) {
	for _, x := range []struct {
		text, hash string
	}{
		{"abc", "ba7816bf8f01cfea414140de5dae2223b00361a396177a9cb410ff61f20015ad"},
		{"abcdbcdecdefdefgefghfghighijhijkijkljklmklmnlmnomnopnopq", "248d6a61d20638b8e5c026930c3e6039a33ce45964ff2167f6ecedd419db06c1"},
		{"abcdefghbcdefghicdefghijdefghijkefghijklfghijklmghijklmnhijklmnoijklmnopjklmnopqklmnopqrlmnopqrsmnopqrstnopqrstu", "cf5b16a778af8380036ce59e7b0492370b249b11e8f07a51afac45037afee9d1"},
		{strings.Repeat("a", 1000000), "cdc76e5c9914fb9281a1c7e284d73e67f1809a48a497200e046d39ccc7112cd0"},
		{"", "e3b0c44298fc1c149afbf4c8996fb92427ae41e4649b934ca495991b7852b855"},
		{"\xbd", "68325720aabd7c82f30f554b313d0570c95accbb7dc4b5aae11204c08ffe732b"},
		{"\xc9\x8c\x8e\x55", "7abc22c0ae5af26ce93dbb94433a0e0b2e119d014f8e7f65bd56c61ccccd9504"},
		{strings.Repeat("\x00", 55), "02779466cdec163811d078815c633f21901413081449002f24aa3e80f0b88ef7"},
		{strings.Repeat("\x00", 56), "d4817aa5497628e7c77e6b606107042bbba3130888c5f47a375e6179be789fbb"},
		{strings.Repeat("\x00", 57), "65a16cb7861335d5ace3c60718b5052e44660726da4cd13bb745381b235a1785"},
		{strings.Repeat("\x00", 64), "f5a5fd42d16a20302798ef6ed309979b43003d2320d9f0e8ea9831a92759fb4b"},
		{strings.Repeat("\x00", 1000), "541b3e9daa09b20bf85fa273e5cbd3e80185aa4ec298e765db87742b70138a53"},
		{strings.Repeat("A", 1000), "c2e686823489ced2017f6059b8b239318b6364f6dcd835d0a519105a1eadd6e4"},
		{strings.Repeat("U", 1005), "f4d62ddec0f3dd90ea1380fa16a5ff8dc4c54b21740650f24afc4120903552b0"},
	} {
		h := sha.Sum([]byte(x.text))
		if hex.EncodeToString(h[:]) != x.hash {
			t.Errorf("%d bytes: %x", len(x.text), h)
		}
		if sha.Of([]byte(x.text)) != h {
			t.Errorf("%d bytes: Of isn't Sum", len(x.text))
		}
	}
}

// TestSum is P2.1: the hash of any text, of every length up to that of several blocks.
func TestSum(t *testing.T) {
	rnd := rand.New(rand.NewSource(1))
	for n := range 400 {
		for _, b := range [][]byte{text(rnd, n), make([]byte, n), bytes.Repeat([]byte{255}, n)} {
			if h := sha.Sum(b); h != sha256.Sum256(b) {
				t.Fatalf("%d bytes %x: %x", n, b, h)
			}
		}
	}
	for range 100 {
		b := text(rnd, rnd.Intn(1<<16))
		if h := sha.Sum(b); h != sha256.Sum256(b) {
			t.Fatalf("%d bytes: %x", len(b), h)
		}
	}
	if sha.Sum(nil) != sha.Sum([]byte{}) {
		t.Error("nil isn't the empty text")
	}
}

// TestSumOfBlocks is P2.1: the hash is what the exported parts make of a text, the initial values compressed with each block of the padded text.
func TestSumOfBlocks(t *testing.T) {
	rnd := rand.New(rand.NewSource(2))
	for _, n := range edges() {
		b := text(rnd, n)
		var state [8]uint32
		for i := range state {
			state[i], _ = sha.Initial(i)
		}
		for block := range slices.Chunk(sha.Pad(b), 64) {
			state = sha.Compress(state, [64]byte(block))
		}
		var h api.Hash
		for i, x := range state {
			copy(h[4*i:], []byte{byte(x >> 24), byte(x >> 16), byte(x >> 8), byte(x)})
		}
		if sha.Sum(b) != h {
			t.Errorf("%d bytes: %x, and of blocks %x", n, sha.Sum(b), h)
		}
	}
}

// TestOf is P2.1: no part, one, and several, wherever the text is divided.
func TestOf(t *testing.T) {
	empty := api.Hash(sha256.Sum256(nil))
	for i, h := range []api.Hash{sha.Of(), sha.Of(nil), sha.Of([]byte{}), sha.Of(nil, []byte{}, nil), sha.Of(make([][]byte, 1000)...)} {
		if h != empty {
			t.Errorf("%d: %x", i, h)
		}
	}
	rnd := rand.New(rand.NewSource(3))
	for _, n := range edges() {
		b := text(rnd, n)
		want := api.Hash(sha256.Sum256(b))
		for i := range n + 1 {
			j := i + rnd.Intn(n-i+1)
			if sha.Of(b[:i], b[i:]) != want || sha.Of(b[:i], nil, b[i:j], b[j:]) != want || sha.Of(nil, b[:i], b[i:], nil) != want {
				t.Fatalf("%d bytes, divided at %d and %d", n, i, j)
			}
		}
		if sha.Of(slices.Collect(slices.Chunk(b, 1))...) != want {
			t.Errorf("%d bytes, each a part", n)
		}
	}
	if sha.Of([]byte("a"), []byte("bc")) != sha.Of([]byte("abc")) || sha.Of([]byte("a"), []byte("b")) == sha.Of([]byte("b"), []byte("a")) {
		t.Error("order of parts")
	}
}

// TestManyParts is P2.1: parts of any number and length, also the same one several times.
func TestManyParts(t *testing.T) {
	rnd := rand.New(rand.NewSource(4))
	for range 300 {
		var parts [][]byte
		for range rnd.Intn(40) {
			parts = append(parts, text(rnd, rnd.Intn(90)))
			if rnd.Intn(3) == 0 {
				parts = append(parts, parts[rnd.Intn(len(parts))])
			}
		}
		whole := bytes.Join(parts, nil)
		if h := sha.Of(parts...); h != sha256.Sum256(whole) {
			t.Fatalf("%d parts, %d bytes: %x", len(parts), len(whole), h)
		}
	}
}

// TestArguments is P2.1: arguments are left as they are, with their spare capacity and the list of the parts.
func TestArguments(t *testing.T) {
	rnd := rand.New(rand.NewSource(5))
	for _, n := range edges() {
		all := text(rnd, n+200)
		before := slices.Clone(all)
		parts := make([][]byte, 8)
		for i := range parts {
			parts[i] = all[n : n+i]
		}
		a, b, c := sha.Sum(all[:n]), sha.Pad(all[:n]), sha.Of(all[:n])
		sha.Of(append(parts[:0:8], all[:n], all[n:n+9])...)
		if !bytes.Equal(all, before) {
			t.Errorf("%d bytes: changed", n)
		}
		for i := 2; i < len(parts); i++ {
			if len(parts[i]) != i || &parts[i][0] != &all[n] {
				t.Errorf("%d bytes: part %d of the list changed", n, i)
			}
		}
		if a != sha.Sum(all[:n]) || !bytes.Equal(b, sha.Pad(all[:n])) || c != sha.Of(all[:n]) {
			t.Errorf("%d bytes: another answer to the same question", n)
		}
	}
}
