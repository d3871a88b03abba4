package ctr_test

import (
	"bytes"
	"encoding/binary"
	"encoding/hex"
	"math"
	"math/big"
	"math/rand"
	"testing"

	"entrust/ctr"
)

// text is bytes, written as hexadecimal digits.
func text(t *testing.T, s string) []byte {
	t.Helper()
	b, err := hex.DecodeString(s)
	if err != nil {
		t.Fatal(s, err)
	}
	return b
}

// block is 16 bytes, written as hexadecimal digits.
func block(t *testing.T, s string) [16]byte {
	t.Helper()
	b := text(t, s)
	if len(b) != 16 {
		t.Fatal(s)
	}
	return [16]byte(b)
}

// random is 16 random bytes.
func random(rnd *rand.Rand) [16]byte {
	var b [16]byte
	rnd.Read(b[:])
	return b
}

// full is 16 bytes 255, the last counter before zeros.
func full() [16]byte {
	return [16]byte(bytes.Repeat([]byte{255}, 16))
}

// counters are zeros, counters that end, or begin, with any number of bytes 255, counters of one bit, and random ones.
func counters(rnd *rand.Rand) [][16]byte {
	var all [][16]byte
	for n := range 17 {
		end, begin, only := random(rnd), random(rnd), [16]byte{}
		copy(end[n:], bytes.Repeat([]byte{255}, 16))
		copy(begin[:n], bytes.Repeat([]byte{255}, 16))
		copy(only[n:], bytes.Repeat([]byte{255}, 16))
		all = append(all, end, begin, only, random(rnd))
	}
	for i := range 128 {
		var bit [16]byte
		bit[i/8] = 128 >> (i % 8)
		all = append(all, bit)
	}
	return all
}

// numbers are numbers at the edges of their bytes, and random ones of any length.
func numbers(rnd *rand.Rand) []uint64 {
	all := []uint64{0, math.MaxUint64, math.MaxUint64 - 1}
	for k := range 64 {
		all = append(all, 1<<k, 1<<k-1, 1<<k+1, -(1 << k), rnd.Uint64()>>k)
	}
	return all
}

// next is the counter plus n, as a remainder of 2^128.
func next(counter [16]byte, n uint64) [16]byte {
	sum := new(big.Int).SetBytes(counter[:])
	sum.Add(sum, new(big.Int).SetUint64(n))
	sum.Mod(sum, new(big.Int).Lsh(big.NewInt(1), 128))
	var out [16]byte
	sum.FillBytes(out[:])
	return out
}

// TestNext is P5.1: counters at the edges plus numbers at the edges, 0 and the greatest one among them.
func TestNext(t *testing.T) {
	rnd := rand.New(rand.NewSource(1))
	for _, counter := range counters(rnd) {
		for _, n := range numbers(rnd) {
			if got, want := ctr.Next(counter, n), next(counter, n); got != want {
				t.Fatalf("%x plus %d: %x, not %x", counter, n, got, want)
			}
		}
	}
}

// TestNextExamples is P5.1: the chapter's example, and sums written out.
func TestNextExamples(t *testing.T) {
	const (
		zeros = "00000000000000000000000000000000"
		most  = "ffffffffffffffffffffffffffffffff"
	)
	for _, x := range []struct {
		counter string
		n       uint64
		want    string
	}{
		{most, 1, zeros},
		{most, 0, most},
		{most, 2, "00000000000000000000000000000001"},
		{most, math.MaxUint64, "0000000000000000fffffffffffffffe"},
		{zeros, 0, zeros},
		{zeros, 1, "00000000000000000000000000000001"},
		{zeros, 258, "00000000000000000000000000000102"},
		{zeros, math.MaxUint64, "0000000000000000ffffffffffffffff"},
		{"000000000000000000000000000000ff", 1, "00000000000000000000000000000100"},
		{"0000000000000000ffffffffffffffff", 1, "00000000000000010000000000000000"},
		{"0000000000000000ffffffffffffffff", math.MaxUint64, "0000000000000001fffffffffffffffe"},
		{"00000000000000000000000000000001", math.MaxUint64, "00000000000000010000000000000000"},
		{"00ffffffffffffffffffffffffffffff", 1, "01000000000000000000000000000000"},
		{"ffffffffffffffff0000000000000001", math.MaxUint64, zeros},
		{"000102030405060708090a0b0c0d0e0f", 0x0102030405060708, "0001020304050607090b0d0f11131517"},
		{"f0f1f2f3f4f5f6f7f8f9fafbfcfdfeff", 1, "f0f1f2f3f4f5f6f7f8f9fafbfcfdff00"},
	} {
		if got := ctr.Next(block(t, x.counter), x.n); got != block(t, x.want) {
			t.Errorf("%s plus %d: %x, not %s", x.counter, x.n, got, x.want)
		}
	}
}

// TestNextTwice is P5.1: two numbers, one after the other, in either order; 2^64 in two parts is carried into the first half and leaves the second one as it was.
func TestNextTwice(t *testing.T) {
	rnd := rand.New(rand.NewSource(2))
	for _, counter := range counters(rnd) {
		for range 20 {
			m, n := rnd.Uint64()>>1, rnd.Uint64()>>1
			if got := ctr.Next(ctr.Next(counter, m), n); got != ctr.Next(counter, m+n) || got != ctr.Next(ctr.Next(counter, n), m) {
				t.Fatalf("%x plus %d, plus %d: %x", counter, m, n, got)
			}
		}
		want := counter
		binary.BigEndian.PutUint64(want[:8], binary.BigEndian.Uint64(want[:8])+1)
		if got := ctr.Next(ctr.Next(counter, math.MaxUint64), 1); got != want {
			t.Fatalf("%x plus 2^64: %x", counter, got)
		}
	}
}
