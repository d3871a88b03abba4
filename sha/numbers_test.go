package sha_test

import (
	"math"
	"math/big"
	"testing"

	"entrust/api"
	"entrust/sha"
)

// rootBits is the first 32 bits of the fractional part of a number's root of that power, found bit by bit: the greatest number whose power isn't beyond that of the root, both counted in 2^-32.
func rootBits(n int64, power int64) uint32 {
	scaled := new(big.Int).Lsh(big.NewInt(n), uint(32*power))
	root := new(big.Int)
	for bit := 40; bit >= 0; bit-- {
		next := new(big.Int).SetBit(root, bit, 1)
		if new(big.Int).Exp(next, big.NewInt(power), nil).Cmp(scaled) <= 0 {
			root = next
		}
	}
	return uint32(root.Uint64())
}

// firstPrimes are the first primes.
func firstPrimes(count int) []int64 {
	var out []int64
	for n := int64(2); len(out) < count; n++ {
		if big.NewInt(n).ProbablyPrime(0) {
			out = append(out, n)
		}
	}
	return out
}

// TestConstant is P2.1: the constants are of the cube roots of the first 64 primes.
func TestConstant(t *testing.T) {
	for i, p := range firstPrimes(64) {
		if k, err := sha.Constant(i); k != rootBits(p, 3) || err != nil {
			t.Errorf("%d: %x, %v", i, k, err)
		}
	}
}

// TestInitial is P2.1: the initial values are of the square roots of the first 8 primes.
func TestInitial(t *testing.T) {
	for i, p := range firstPrimes(8) {
		if h, err := sha.Initial(i); h != rootBits(p, 2) || err != nil {
			t.Errorf("%d: %x, %v", i, h, err)
		}
	}
}

// TestPublishedNumbers is P2.1: the first ones and the last ones, as FIPS 180-4 writes them.
func TestPublishedNumbers(t *testing.T) {
	for _, x := range []struct {
		number func(i int) (uint32, error)
		i      int
		want   uint32
	}{
		{sha.Constant, 0, 0x428a2f98},
		{sha.Constant, 1, 0x71374491},
		{sha.Constant, 7, 0xab1c5ed5},
		{sha.Constant, 8, 0xd807aa98},
		{sha.Constant, 62, 0xbef9a3f7},
		{sha.Constant, 63, 0xc67178f2},
		{sha.Initial, 0, 0x6a09e667},
		{sha.Initial, 1, 0xbb67ae85},
		{sha.Initial, 6, 0x1f83d9ab},
		{sha.Initial, 7, 0x5be0cd19},
	} {
		if n, err := x.number(x.i); n != x.want || err != nil {
			t.Errorf("%d: %x, %v", x.i, n, err)
		}
	}
}

// TestNoSuchNumber is P2.1: one less than the first number, one more than the last, and others that there aren't, also such as have the lowest bits of one that there is.
func TestNoSuchNumber(t *testing.T) {
	others := []int{math.MinInt, math.MinInt + 1, -1 << 32, -256, -64, -63, -8, -2, -1, 64, 65, 127, 128, 255, 256, 1 << 16, 1 << 31, 1 << 32, 1<<32 + 1, 1<<32 + 7, math.MaxInt - 1, math.MaxInt}
	for _, i := range others {
		if k, err := sha.Constant(i); k != 0 || err != api.ErrRange {
			t.Errorf("constant %d: %x, %v", i, k, err)
		}
	}
	for _, i := range append(others, 8, 9, 15, 16, 62, 63) {
		if h, err := sha.Initial(i); h != 0 || err != api.ErrRange {
			t.Errorf("initial value %d: %x, %v", i, h, err)
		}
	}
}
