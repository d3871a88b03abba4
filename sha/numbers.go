package sha

import (
	"math/bits"
	"sort"

	"entrust/api"
)

// constants are written out since each block needs all of them, and a search for one takes far longer than a round. The same goes for initials.
var constants = [64]uint32{
	0x428a2f98, 0x71374491, 0xb5c0fbcf, 0xe9b5dba5, 0x3956c25b, 0x59f111f1, 0x923f82a4, 0xab1c5ed5,
	0xd807aa98, 0x12835b01, 0x243185be, 0x550c7dc3, 0x72be5d74, 0x80deb1fe, 0x9bdc06a7, 0xc19bf174,
	0xe49b69c1, 0xefbe4786, 0x0fc19dc6, 0x240ca1cc, 0x2de92c6f, 0x4a7484aa, 0x5cb0a9dc, 0x76f988da,
	0x983e5152, 0xa831c66d, 0xb00327c8, 0xbf597fc7, 0xc6e00bf3, 0xd5a79147, 0x06ca6351, 0x14292967,
	0x27b70a85, 0x2e1b2138, 0x4d2c6dfc, 0x53380d13, 0x650a7354, 0x766a0abb, 0x81c2c92e, 0x92722c85,
	0xa2bfe8a1, 0xa81a664b, 0xc24b8b70, 0xc76c51a3, 0xd192e819, 0xd6990624, 0xf40e3585, 0x106aa070,
	0x19a4c116, 0x1e376c08, 0x2748774c, 0x34b0bcb5, 0x391c0cb3, 0x4ed8aa4a, 0x5b9cca4f, 0x682e6ff3,
	0x748f82ee, 0x78a5636f, 0x84c87814, 0x8cc70208, 0x90befffa, 0xa4506ceb, 0xbef9a3f7, 0xc67178f2,
}

var initials = [8]uint32{
	0x6a09e667, 0xbb67ae85, 0x3c6ef372, 0xa54ff53a, 0x510e527f, 0x9b05688c, 0x1f83d9ab, 0x5be0cd19,
}

// Constant returns the constant with that number, once a search has found the same one.
func Constant(i int) (uint32, error) {
	if i < 0 || i >= len(constants) || constants[i] != fraction(beyondCube(prime(i))) {
		return 0, api.ErrRange
	}
	return constants[i], nil
}

// Initial returns the initial value with that number, once a search has found the same one.
func Initial(i int) (uint32, error) {
	if i < 0 || i >= len(initials) || initials[i] != fraction(beyondSquare(prime(i))) {
		return 0, api.ErrRange
	}
	return initials[i], nil
}

// fraction returns the first 32 bits behind a root's point. All numbers here are counted in 2^-32, so the last one that isn't beyond the root has them as its lowest bits.
func fraction(beyond func(x uint64) bool) uint32 {
	const most = 8 << 32 // no root here reaches 8, and no cube of these numbers has more than 128 bits
	first := sort.Search(most, func(x int) bool { return beyond(uint64(x)) })
	return uint32(first - 1)
}

// beyondSquare returns what tells whether a number is beyond the prime's square root. No number is that root itself, since it isn't a fraction, so the bits below the prime's place decide nothing. The same goes for beyondCube.
func beyondSquare(prime uint64) func(x uint64) bool {
	return func(x uint64) bool {
		high, _ := bits.Mul64(x, x)
		return high >= prime
	}
}

// beyondCube returns what tells whether a number is beyond the prime's cube root.
func beyondCube(prime uint64) func(x uint64) bool {
	return func(x uint64) bool {
		high, low := bits.Mul64(x, x)
		carry, _ := bits.Mul64(low, x)
		return high*x+carry >= prime<<32
	}
}

// prime returns the prime with that number, of which 2 has number 0.
func prime(i int) uint64 {
	p := uint64(2)
	for range i {
		p++
		for !isPrime(p) {
			p++
		}
	}
	return p
}

// isPrime reports whether a number greater than 1 is a prime.
func isPrime(n uint64) bool {
	for d := uint64(2); d*d <= n; d++ {
		if n%d == 0 {
			return false
		}
	}
	return true
}
