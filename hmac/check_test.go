package hmac_test

import (
	"bytes"
	"math/rand"
	"slices"
	"testing"

	"entrust/hmac"
)

// TestSame is P3.1: bytes that are equal, bytes with one bit inverted, wherever it is, and bytes of unlike lengths.
func TestSame(t *testing.T) {
	rnd := rand.New(rand.NewSource(7))
	for n := range 70 {
		a := text(rnd, n)
		b := slices.Clone(a)
		if !hmac.Same(a, b) || !hmac.Same(a, a) {
			t.Fatalf("%x isn't itself", a)
		}
		for i := range 8 * n {
			b[i/8] ^= 1 << (i % 8)
			if hmac.Same(a, b) || hmac.Same(b, a) {
				t.Fatalf("%x is %x", a, b)
			}
			b[i/8] = a[i/8]
		}
	}
	for _, b := range [][]byte{nil, {}, make([]byte, 3)[:0]} {
		if !hmac.Same(nil, b) || !hmac.Same(b, nil) || !hmac.Same(b, []byte{}) {
			t.Errorf("%v isn't empty", b)
		}
	}
}

// TestSameLengths is P3.1: bytes of unlike lengths aren't equal, though one are the beginning, the end or the whole of the others with zeros, or their lengths differ by a multiple of 256.
func TestSameLengths(t *testing.T) {
	rnd := rand.New(rand.NewSource(8))
	for _, long := range [][]byte{text(rnd, 70), make([]byte, 70), append(text(rnd, 30), make([]byte, 40)...), append(make([]byte, 40), text(rnd, 30)...)} {
		for n := range len(long) {
			for _, short := range [][]byte{long[:n], long[len(long)-n:]} {
				if hmac.Same(short, long) || hmac.Same(long, short) {
					t.Fatalf("%x is %x", short, long)
				}
			}
		}
	}
	for _, n := range []int{1 << 8, 1 << 9, 1 << 16, 1 << 24} {
		if b := make([]byte, n); hmac.Same(nil, b) || hmac.Same(b, nil) || hmac.Same(b, b[:n/2]) {
			t.Errorf("%d zeros are none, or half as many", n)
		}
	}
}

// TestSameAny is P3.1: bytes that differ in several bits, of which some might cancel out.
func TestSameAny(t *testing.T) {
	rnd := rand.New(rand.NewSource(9))
	for range 5000 {
		a := text(rnd, 1+rnd.Intn(40))
		b := slices.Clone(a)
		i, j, x := rnd.Intn(len(a)), rnd.Intn(len(a)), byte(rnd.Intn(256))
		b[i], b[j] = b[i]^x, b[j]^x
		if hmac.Same(a, b) != bytes.Equal(a, b) {
			t.Fatalf("%x, %x: %v", a, b, hmac.Same(a, b))
		}
		b[i], b[j] = a[j], a[i]
		if hmac.Same(a, b) != bytes.Equal(a, b) {
			t.Fatalf("%x, %x: %v", a, b, hmac.Same(a, b))
		}
	}
}

// TestCheckBits is P3.2: both tags are accepted, and rejected with any one bit inverted, for keys at the edges and any number of parts.
func TestCheckBits(t *testing.T) {
	rnd := rand.New(rand.NewSource(10))
	for _, n := range keyLengths() {
		for count := range 3 {
			key := text(rnd, n)
			parts := make([][]byte, count)
			for i := range parts {
				parts[i] = text(rnd, rnd.Intn(50))
			}
			whole := hmac.Mac(key, parts...)
			checkBits(t, whole[:], key, parts)
			checkBits(t, hmac.Short(key, parts...), key, parts)
		}
	}
}

// checkBits has a tag checked as it is, and with each of its bits inverted.
func checkBits(t *testing.T, tag, key []byte, parts [][]byte) {
	t.Helper()
	if !hmac.Check(tag, key, parts...) {
		t.Fatalf("tag %x, key %x, parts %x: rejected", tag, key, parts)
	}
	for i := range 8 * len(tag) {
		tag[i/8] ^= 1 << (i % 8)
		if hmac.Check(tag, key, parts...) {
			t.Fatalf("tag %x, key %x, parts %x: accepted with bit %d inverted", tag, key, parts, i)
		}
		tag[i/8] ^= 1 << (i % 8)
	}
}

// TestCheckLengths is P3.1: a tag of any length but 16 and 32 is rejected, though it is the beginning of the whole tag, or begins with it; and so are 16 bytes that aren't its first ones.
func TestCheckLengths(t *testing.T) {
	rnd := rand.New(rand.NewSource(11))
	for _, n := range keyLengths() {
		key, b := text(rnd, n), text(rnd, rnd.Intn(100))
		whole := hmac.Mac(key, b)
		for _, rest := range [][]byte{make([]byte, 70), whole[:], text(rnd, 70)} {
			long := append(slices.Clone(whole[:]), rest...)
			for length := range len(long) {
				if hmac.Check(long[:length], key, b) != (length == 16 || length == 32) {
					t.Fatalf("tag of %d bytes: %v", length, hmac.Check(long[:length], key, b))
				}
			}
		}
		if hmac.Check(whole[16:], key, b) || hmac.Check(append(whole[16:], whole[:16]...), key, b) || hmac.Check(slices.Concat(whole[:16], whole[:16]), key, b) {
			t.Fatalf("%x: accepted in a wrong order", whole)
		}
		if hmac.Check(nil, key, b) || hmac.Check([]byte{}, key, b) || hmac.Check(make([]byte, 16), key, b) || hmac.Check(make([]byte, 32), key, b) {
			t.Fatal("accepted no tag, or zeros")
		}
	}
}

// TestCheckOthers is P3.1: the tags of another key, of another text, and of no text are rejected.
func TestCheckOthers(t *testing.T) {
	rnd := rand.New(rand.NewSource(12))
	for _, n := range keyLengths()[1:] {
		key, b := text(rnd, n), text(rnd, 1+rnd.Intn(100))
		whole := hmac.Mac(key, b)
		otherKey, other := slices.Clone(key), slices.Clone(b)
		otherKey[rnd.Intn(n)] ^= 1 << rnd.Intn(8)
		other[rnd.Intn(len(b))] ^= 1 << rnd.Intn(8)
		for _, tag := range [][]byte{whole[:], whole[:16]} {
			if hmac.Check(tag, otherKey, b) || hmac.Check(tag, nil, b) || hmac.Check(tag, key, other) || hmac.Check(tag, key) || hmac.Check(tag, key, b, []byte{0}) || hmac.Check(tag, b, key) {
				t.Fatalf("key %x, text %x: another one's tag is accepted", key, b)
			}
		}
	}
}
