package aes_test

import (
	"encoding/hex"
	"math/bits"
	"testing"

	"entrust/aes"
)

// published are the substitutes of all bytes, as figure 7 of FIPS 197 has them.
const published = "637c777bf26b6fc53001672bfed7ab76" +
	"ca82c97dfa5947f0add4a2af9ca472c0" +
	"b7fd9326363ff7cc34a5e5f171d83115" +
	"04c723c31896059a071280e2eb27b275" +
	"09832c1a1b6e5aa0523bd6b329e32f84" +
	"53d100ed20fcb15b6acbbe394a4c58cf" +
	"d0efaafb434d338545f9027f503c9fa8" +
	"51a3408f929d38f5bcb6da2110fff3d2" +
	"cd0c13ec5f974417c4a77e3d645d1973" +
	"60814fdc222a908846eeb814de5e0bdb" +
	"e0323a0a4906245cc2d3ac629195e479" +
	"e7c8376d8dd54ea96c56f4ea657aae08" +
	"ba78252e1ca6b4c6e8dd741f4bbd8b8a" +
	"703eb5664803f60e613557b986c11d9e" +
	"e1f8981169d98e949b1e87e9ce5528df" +
	"8ca1890dbfe6426841992d0fb054bb16"

// product is the product as the remainder of polynomials: the first multiplied by the second without carries, and reduced by the polynomial 283 from the highest bit on.
func product(a, b byte) byte {
	var whole int
	for k := range 8 {
		if b>>k&1 == 1 {
			whole ^= int(a) << k
		}
	}
	for k := 14; k >= 8; k-- {
		if whole>>k&1 == 1 {
			whole ^= 283 << (k - 8)
		}
	}
	return byte(whole)
}

// inverse is the inverse, looked for among all elements.
func inverse(a byte) byte {
	for b := range 256 {
		if product(a, byte(b)) == 1 {
			return byte(b)
		}
	}
	return 0
}

// substitute is the substitute, bit by bit as section 5.1.1 of FIPS 197 has it.
func substitute(a byte) byte {
	x := inverse(a)
	var s byte
	for i := range 8 {
		bit := x>>i ^ x>>((i+4)%8) ^ x>>((i+5)%8) ^ x>>((i+6)%8) ^ x>>((i+7)%8) ^ 99>>i
		s |= bit & 1 << i
	}
	return s
}

// TestProduct is P4.1: the products of all elements with all elements.
func TestProduct(t *testing.T) {
	for a := range 256 {
		for b := range 256 {
			if got, want := aes.Product(byte(a), byte(b)), product(byte(a), byte(b)); got != want {
				t.Fatalf("%d times %d: %d, not %d", a, b, got, want)
			}
		}
	}
}

// TestProductEdges is P4.1: the product with 0 and with 1, doubling with and without a bit that is shifted out, and what FIPS 197 has as examples.
func TestProductEdges(t *testing.T) {
	for a := range 256 {
		x := byte(a)
		if aes.Product(x, 0) != 0 || aes.Product(0, x) != 0 {
			t.Errorf("%d times 0: %d, %d", a, aes.Product(x, 0), aes.Product(0, x))
		}
		if aes.Product(x, 1) != x || aes.Product(1, x) != x {
			t.Errorf("%d times 1: %d, %d", a, aes.Product(x, 1), aes.Product(1, x))
		}
		doubled := x << 1
		if a >= 128 {
			doubled ^= 27
		}
		if aes.Product(2, x) != doubled || aes.Product(x, 2) != doubled {
			t.Errorf("%d doubled: %d, %d, not %d", a, aes.Product(2, x), aes.Product(x, 2), doubled)
		}
	}
	for _, x := range [][3]byte{
		{2, 127, 254}, {2, 128, 27}, {2, 129, 25}, {2, 255, 229}, {2, 64, 128},
		{0x57, 0x83, 0xc1}, {0x57, 0x13, 0xfe}, {0x57, 0x02, 0xae}, {0x57, 0x04, 0x47}, {0x57, 0x08, 0x8e}, {0x57, 0x10, 0x07}, {0x53, 0xca, 0x01},
	} {
		if aes.Product(x[0], x[1]) != x[2] || aes.Product(x[1], x[0]) != x[2] {
			t.Errorf("%d times %d: %d, %d, not %d", x[0], x[1], aes.Product(x[0], x[1]), aes.Product(x[1], x[0]), x[2])
		}
	}
}

// TestProductOfSums is P4.1: a product with a sum is the sum of the products, with all elements.
func TestProductOfSums(t *testing.T) {
	for a := range 256 {
		for b := range 256 {
			x, y, z := byte(a), byte(b), byte(a*7+b*13)
			if aes.Product(x, y^z) != aes.Product(x, y)^aes.Product(x, z) || aes.Product(x, aes.Product(y, z)) != aes.Product(aes.Product(x, y), z) {
				t.Fatalf("%d, %d, %d", x, y, z)
			}
		}
	}
}

// TestInverse is P4.1: all elements' inverses, of which each element has another one; that of 0 is 0.
func TestInverse(t *testing.T) {
	if aes.Inverse(0) != 0 || aes.Inverse(1) != 1 || aes.Inverse(2) != 0x8d || aes.Inverse(0x53) != 0xca {
		t.Errorf("of 0, 1, 2 and 83: %d, %d, %d, %d", aes.Inverse(0), aes.Inverse(1), aes.Inverse(2), aes.Inverse(0x53))
	}
	for a := range 256 {
		x := byte(a)
		if got := aes.Inverse(x); got != inverse(x) || aes.Inverse(got) != x || a != 0 && aes.Product(x, got) != 1 {
			t.Errorf("of %d: %d, not %d", a, got, inverse(x))
		}
	}
}

// TestSubstitute is P4.1: the substitutes of all bytes, held against the published ones, against the standard's bits, and against the chapter's words.
func TestSubstitute(t *testing.T) {
	table, err := hex.DecodeString(published)
	if err != nil || len(table) != 256 {
		t.Fatal(len(table), err)
	}
	if aes.Substitute(0) != 99 || aes.Substitute(1) != 124 {
		t.Errorf("of 0 and 1: %d, %d", aes.Substitute(0), aes.Substitute(1))
	}
	for a, want := range table {
		x := aes.Inverse(byte(a))
		words := x ^ bits.RotateLeft8(x, 1) ^ bits.RotateLeft8(x, 2) ^ bits.RotateLeft8(x, 3) ^ bits.RotateLeft8(x, 4) ^ 99
		if got := aes.Substitute(byte(a)); got != want || got != words || got != substitute(byte(a)) {
			t.Errorf("of %d: %d, not %d", a, got, want)
		}
	}
}

// TestSubstitutesDiffer is P4.2: no two bytes have the same substitute, so that all bytes are substitutes; and none is its own.
func TestSubstitutesDiffer(t *testing.T) {
	of := map[byte]int{}
	for a := range 256 {
		s := aes.Substitute(byte(a))
		if b, is := of[s]; is {
			t.Errorf("%d and %d: both %d", b, a, s)
		}
		if of[s] = a; s == byte(a) {
			t.Errorf("%d is its own", a)
		}
	}
	if len(of) != 256 {
		t.Errorf("%d substitutes", len(of))
	}
}
