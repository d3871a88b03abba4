package aes_test

import (
	libraryaes "crypto/aes"
	"math/rand"
	"testing"

	"entrust/aes"
	"entrust/api"
)

// libraryEncrypted is the encrypted block as Go's library has it.
func libraryEncrypted(t *testing.T, key api.Key, b [16]byte) [16]byte {
	t.Helper()
	c, err := libraryaes.NewCipher(key[:])
	if err != nil {
		t.Fatal(err)
	}
	c.Encrypt(b[:], b[:])
	return b
}

// checkBlock holds a cipher's encryption of a block against what is wanted, and has it decrypted again.
func checkBlock(t *testing.T, c *aes.Cipher, b, want [16]byte) {
	t.Helper()
	if got := c.Encrypt(b); got != want {
		t.Fatalf("%x: %x, not %x", b, got, want)
	}
	if got := c.Decrypt(want); got != b {
		t.Fatalf("decrypted %x: %x, not %x", want, got, b)
	}
}

// TestPublished is P4.1: published examples of AES-128, of FIPS 197 (appendices B and C.1), of NIST's SP 800-38A (F.1.1), and of NIST's AESAVS: of its appendices B to E in their order, some of each.
func TestPublished(t *testing.T) {
	for _, x := range []struct{ key, block, want string }{
		{"2b7e151628aed2a6abf7158809cf4f3c", "3243f6a8885a308d313198a2e0370734", "3925841d02dc09fbdc118597196a0b32"},
		{"000102030405060708090a0b0c0d0e0f", "00112233445566778899aabbccddeeff", "69c4e0d86a7b0430d8cdb78070b4c55a"},
		{"2b7e151628aed2a6abf7158809cf4f3c", "6bc1bee22e409f96e93d7e117393172a", "3ad77bb40d7a3660a89ecaf32466ef97"},
		{"2b7e151628aed2a6abf7158809cf4f3c", "ae2d8a571e03ac9c9eb76fac45af8e51", "f5d3d58503b9699de785895a96fdbaaf"},
		{"2b7e151628aed2a6abf7158809cf4f3c", "30c81c46a35ce411e5fbc1191a0a52ef", "43b1cd7f598ece23881b00e3ed030688"},
		{"2b7e151628aed2a6abf7158809cf4f3c", "f69f2445df4f9b17ad2b417be66c3710", "7b0c785e27e8ad3f8223207104725dd4"},
		{"00000000000000000000000000000000", "f34481ec3cc627bacd5dc3fb08f273e6", "0336763e966d92595a567cc9ce537f5e"},
		{"00000000000000000000000000000000", "9798c4640bad75c7c3227db910174e72", "a9a1631bf4996954ebc093957b234589"},
		{"10a58869d74be5a374cf867cfb473859", "00000000000000000000000000000000", "6d251e6944b051e04eaa6fb4dbf78465"},
		{"80000000000000000000000000000000", "00000000000000000000000000000000", "0edd33d3c621e546455bd8ba1418bec8"},
		{"ffffffffffffffffffffffffffffffff", "00000000000000000000000000000000", "a1f6258c877d5fcd8964484538bfc92c"},
		{"00000000000000000000000000000000", "80000000000000000000000000000000", "3ad78e726c1ec02b7ebfe92b23d9ec34"},
		{"00000000000000000000000000000000", "ffffffffffffffffffffffffffffffff", "3f5b8cc9ea855a0afa7347d23e8d664e"},
	} {
		key, b, want := api.Key(block(t, x.key)), block(t, x.block), block(t, x.want)
		if got := libraryEncrypted(t, key, b); got != want {
			t.Fatalf("key %x, block %x: the example is mistaken, %x", key, b, got)
		}
		checkBlock(t, aes.New(key), b, want)
	}
}

// TestEncrypt is P4.1 and P4.2: blocks of one byte throughout, of one bit, of each byte at each place, and random ones, with many keys; each is decrypted again, and is the encryption of what it is decrypted to.
func TestEncrypt(t *testing.T) {
	rnd := rand.New(rand.NewSource(2))
	for n, key := range keys(rnd) {
		c := aes.New(key)
		bit, byteAt := [16]byte{}, [16]byte{}
		bit[n/8%16] = 1 << (n % 8)
		byteAt[rnd.Intn(16)] = byte(n)
		for _, b := range [][16]byte{{}, key, bit, byteAt, random(rnd), random(rnd)} {
			checkBlock(t, c, b, libraryEncrypted(t, key, b))
			if back := c.Decrypt(b); libraryEncrypted(t, key, back) != b || c.Encrypt(back) != b {
				t.Fatalf("key %x: %x decrypted is %x", key, b, back)
			}
		}
	}
}

// TestEveryByte is P4.1 and P4.2: each byte at each place of a block.
func TestEveryByte(t *testing.T) {
	rnd := rand.New(rand.NewSource(3))
	key, b := api.Key(random(rnd)), random(rnd)
	c := aes.New(key)
	of := map[[16]byte][16]byte{}
	for i := range b {
		changed := b
		for a := range 256 {
			changed[i] = byte(a)
			want := libraryEncrypted(t, key, changed)
			checkBlock(t, c, changed, want)
			if old, is := of[want]; is && old != changed {
				t.Fatalf("%x and %x: both %x", old, changed, want)
			}
			of[want] = changed
		}
	}
}

// TestDefinition is P4.1: the encryption by the chapter's words, with the round keys that RoundKey returns.
func TestDefinition(t *testing.T) {
	rnd := rand.New(rand.NewSource(4))
	for range 30 {
		key, b := api.Key(random(rnd)), random(rnd)
		c := aes.New(key)
		if got, want := c.Encrypt(b), defined(t, c, b); got != want {
			t.Fatalf("key %x, block %x: %x, not %x", key, b, got, want)
		}
	}
}

// defined is a block encrypted by the chapter's words, step by step.
func defined(t *testing.T, c *aes.Cipher, b [16]byte) [16]byte {
	t.Helper()
	for i := range 11 {
		if i > 0 {
			old := b
			for col := range 4 {
				for row := range 4 {
					b[4*col+row] = aes.Substitute(old[4*((col+row)%4)+row])
				}
			}
		}
		for at := 0; at < 16 && i > 0 && i < 10; at += 4 {
			p, q, r, s := b[at], b[at+1], b[at+2], b[at+3]
			b[at] = aes.Product(2, p) ^ aes.Product(3, q) ^ r ^ s
			b[at+1] = p ^ aes.Product(2, q) ^ aes.Product(3, r) ^ s
			b[at+2] = p ^ q ^ aes.Product(2, r) ^ aes.Product(3, s)
			b[at+3] = aes.Product(3, p) ^ q ^ r ^ aes.Product(2, s)
		}
		key, err := c.RoundKey(i)
		if err != nil {
			t.Fatal(i, err)
		}
		for at := range b {
			b[at] ^= key[at]
		}
	}
	return b
}

// TestNil is P4.1: a nil cipher encrypts and decrypts as that with the key of zeros.
func TestNil(t *testing.T) {
	var none *aes.Cipher
	zeros := aes.New(api.Key{})
	rnd := rand.New(rand.NewSource(5))
	checkBlock(t, none, [16]byte{}, block(t, "66e94bd4ef8a2c3b884cfa59ca342b2e"))
	for range 100 {
		b := random(rnd)
		checkBlock(t, none, b, libraryEncrypted(t, api.Key{}, b))
		if zeros.Encrypt(b) != none.Encrypt(b) || zeros.Decrypt(b) != none.Decrypt(b) {
			t.Fatalf("%x: another one without a cipher", b)
		}
	}
}

// TestArguments is P4.1 with rule 5: the key and the blocks are left as they are, and nothing of them, or of a result, is kept: who changes one changes no answer.
func TestArguments(t *testing.T) {
	rnd := rand.New(rand.NewSource(6))
	key, b := api.Key(random(rnd)), random(rnd)
	oldKey, oldBlock := key, b
	c := aes.New(key)
	encrypted, decrypted := c.Encrypt(b), c.Decrypt(b)
	if key != oldKey || b != oldBlock {
		t.Fatalf("key %x, block %x: changed", key, b)
	}
	for i := range 11 {
		x, err := c.RoundKey(i)
		if err != nil {
			t.Fatal(i, err)
		}
		clear(x[:])
	}
	gotEncrypted, gotDecrypted := encrypted, decrypted
	clear(key[:])
	clear(b[:])
	clear(gotEncrypted[:])
	clear(gotDecrypted[:])
	checkRoundKeys(t, c, roundKeys(oldKey))
	if c.Encrypt(oldBlock) != encrypted || c.Decrypt(oldBlock) != decrypted {
		t.Error("another answer to the same question")
	}
}

// TestTwoCiphers is P4.1 with rule 8: ciphers, of which none hangs on the others, or on what was encrypted before.
func TestTwoCiphers(t *testing.T) {
	rnd := rand.New(rand.NewSource(7))
	all := keys(rnd)
	ciphers := make([]*aes.Cipher, len(all))
	for i, key := range all {
		ciphers[i] = aes.New(key)
	}
	for _, i := range rnd.Perm(len(all)) {
		b := random(rnd)
		checkBlock(t, ciphers[i], b, libraryEncrypted(t, all[i], b))
	}
}
