package aes_test

import (
	"encoding/hex"
	"math"
	"math/rand"
	"testing"

	"entrust/aes"
	"entrust/api"
)

// block is 16 bytes, written as hexadecimal digits.
func block(t *testing.T, s string) [16]byte {
	t.Helper()
	b, err := hex.DecodeString(s)
	if err != nil || len(b) != 16 {
		t.Fatal(s, err)
	}
	return [16]byte(b)
}

// random is 16 random bytes.
func random(rnd *rand.Rand) [16]byte {
	var b [16]byte
	rnd.Read(b[:])
	return b
}

// keys are keys of one byte throughout, keys of one bit, and random ones.
func keys(rnd *rand.Rand) []api.Key {
	var all []api.Key
	for a := range 256 {
		var key api.Key
		for i := range key {
			key[i] = byte(a)
		}
		all = append(all, key, random(rnd))
	}
	for i := range 128 {
		var key api.Key
		key[i/8] = 128 >> (i % 8)
		all = append(all, key)
	}
	return all
}

// roundKeys are a key's round keys by the chapter's words: 44 words, one behind the other.
func roundKeys(key api.Key) [11][16]byte {
	var words [44][4]byte
	for i := range words {
		if i < 4 {
			words[i] = [4]byte(key[4*i:])
			continue
		}
		before := words[i-1]
		if i%4 == 0 {
			before = [4]byte{substitute(before[1]), substitute(before[2]), substitute(before[3]), substitute(before[0])}
			power := byte(1)
			for range i/4 - 1 {
				power = product(power, 2)
			}
			before[0] ^= power
		}
		for j := range before {
			words[i][j] = words[i-4][j] ^ before[j]
		}
	}
	var all [11][16]byte
	for i, word := range words {
		copy(all[i/4][i%4*4:], word[:])
	}
	return all
}

// checkRoundKeys holds a cipher's round keys against those wanted, and asks for those that there aren't.
func checkRoundKeys(t *testing.T, c *aes.Cipher, want [11][16]byte) {
	t.Helper()
	for i := range want {
		if got, err := c.RoundKey(i); got != want[i] || err != nil {
			t.Fatalf("%d: %x, %v, not %x", i, got, err, want[i])
		}
	}
	for _, i := range []int{-1, 11, -2, 12, 16, 43, -11, 256, -256, 1 << 32, 1<<32 + 1, math.MaxInt, math.MinInt} {
		if got, err := c.RoundKey(i); got != [16]byte{} || err != api.ErrRange {
			t.Errorf("%d: %x, %v", i, got, err)
		}
	}
}

// TestRoundKey is P4.1: the round keys 0 to 10 by the chapter's words, and ErrRange for all other numbers, with a result of zeros.
func TestRoundKey(t *testing.T) {
	for _, key := range keys(rand.New(rand.NewSource(1))) {
		checkRoundKeys(t, aes.New(key), roundKeys(key))
	}
}

// TestRoundKeyPublished is P4.1: the round keys that appendix A.1 of FIPS 197 has for its key.
func TestRoundKeyPublished(t *testing.T) {
	c := aes.New(api.Key(block(t, "2b7e151628aed2a6abf7158809cf4f3c")))
	for i, want := range []string{
		"2b7e151628aed2a6abf7158809cf4f3c",
		"a0fafe1788542cb123a339392a6c7605",
		"f2c295f27a96b9435935807a7359f67f",
		"3d80477d4716fe3e1e237e446d7a883b",
		"ef44a541a8525b7fb671253bdb0bad00",
		"d4d1c6f87c839d87caf2b8bc11f915bc",
		"6d88a37a110b3efddbf98641ca0093fd",
		"4e54f70e5f5fc9f384a64fb24ea6dc4f",
		"ead27321b58dbad2312bf5607f8d292f",
		"ac7766f319fadc2128d12941575c006e",
		"d014f9a8c9ee2589e13f0cc8b6630ca6",
	} {
		if got, err := c.RoundKey(i); got != block(t, want) || err != nil {
			t.Errorf("%d: %x, %v, not %s", i, got, err, want)
		}
	}
}

// TestNilKeys is P4.1: a nil cipher has the round keys of the key of zeros, of which the last is a known one, and no others.
func TestNilKeys(t *testing.T) {
	var none *aes.Cipher
	checkRoundKeys(t, none, roundKeys(api.Key{}))
	if last, err := none.RoundKey(10); last != block(t, "b4ef5bcb3e92e21123e951cf6f8f188e") || err != nil {
		t.Errorf("%x, %v", last, err)
	}
}
