package hmac_test

import (
	"bytes"
	"math/rand"
	"slices"
	"testing"

	"entrust/api"
	"entrust/hmac"
)

// TestArguments is P3.1 with rule 5: the key, the parts and the tag are left as they are, with their spare capacity, though they lie in one memory.
func TestArguments(t *testing.T) {
	rnd := rand.New(rand.NewSource(13))
	for _, n := range keyLengths() {
		all := text(rnd, n+200)
		before := slices.Clone(all)
		key, b, tag := all[:n], all[n:n+40], all[n+40:n+72]
		hmac.Block(key)
		hmac.Mac(key, b, key, all, tag)
		hmac.Short(key, b, key, all, tag)
		for length := range len(tag) + 1 {
			hmac.Same(tag[:length], b[:16])
			hmac.Check(tag[:length], key, b, key, all, tag)
		}
		if !bytes.Equal(all, before) {
			t.Errorf("key of %d bytes: changed", n)
		}
	}
}

// TestListOfParts is P3.1 with rule 5: the list of the parts is left as it is, with its spare capacity.
func TestListOfParts(t *testing.T) {
	rnd := rand.New(rand.NewSource(14))
	for n := range 8 {
		list := make([][]byte, 12)
		for i := range list {
			list[i] = text(rnd, 1+i)
		}
		before := slices.Clone(list)
		key := text(rnd, 20)
		hmac.Mac(key, list[:n]...)
		hmac.Short(key, list[:n]...)
		hmac.Check(make([]byte, 16), key, list[:n]...)
		hmac.Check(make([]byte, 32), key, list[:n]...)
		for i := range list {
			if len(list[i]) != 1+i || &list[i][0] != &before[i][0] {
				t.Errorf("%d parts: part %d of the list changed", n, i)
			}
		}
	}
}

// TestNothingIsKept is P3.1 with rules 5 and 8: who changes a result, or an argument behind the call, changes no other answer.
func TestNothingIsKept(t *testing.T) {
	rnd := rand.New(rand.NewSource(15))
	for _, n := range keyLengths() {
		key, b := text(rnd, n), text(rnd, 50)
		type answers struct {
			whole api.Hash
			short string
			block [64]byte
		}
		ask := func() answers {
			return answers{hmac.Mac(key, b), string(hmac.Short(key, b)), hmac.Block(key)}
		}
		before := ask()
		short, other := hmac.Short(key, b), hmac.Short(key, b)
		clear(short[:cap(short)])
		if string(other) != before.short || ask() != before {
			t.Errorf("key of %d bytes: short tags share memory", n)
		}
		b[7] ^= 1
		if ask().whole == before.whole || string(other) != before.short {
			t.Errorf("key of %d bytes: a text that was changed has the old tag", n)
		}
		b[7] ^= 1
		if ask() != before {
			t.Errorf("key of %d bytes: another answer to the same question", n)
		}
	}
}
