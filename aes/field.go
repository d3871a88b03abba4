package aes

import "math/bits"

// Product returns the product of two elements.
func Product(a, b byte) byte {
	var product byte
	for k := range 8 {
		if a>>k&1 == 1 {
			product ^= b
		}
		b = double(b)
	}
	return product
}

// double returns an element, doubled.
func double(a byte) byte {
	if a>>7 == 1 {
		return a<<1 ^ 27
	}
	return a << 1
}

// Inverse returns an element's inverse, and 0 for 0. All elements but 0 to the power 255 are 1, so that the power 254 is the inverse; it is the product of the powers 2, 4, 8 and so on to 128.
func Inverse(a byte) byte {
	inverse := byte(1)
	for range 7 {
		a = Product(a, a)
		inverse = Product(inverse, a)
	}
	return inverse
}

// Substitute returns a byte's substitute.
func Substitute(a byte) byte {
	return substituteOf(Inverse(a))
}

// substituteOf returns the substitute of the byte with that inverse.
func substituteOf(inverse byte) byte {
	substitute := byte(99)
	for k := range 5 {
		substitute ^= bits.RotateLeft8(inverse, k)
	}
	return substitute
}

// substitutes returns the substitutes of all bytes. A block has 160 of them, so it would be slow to find each inverse by itself: the powers of 3 are all elements but 0, and the inverse of one is as many powers before the 255th, which is 1 again.
func substitutes() [256]byte {
	var powers [256]byte
	power := byte(1)
	for i := range powers {
		powers[i] = power
		power ^= double(power)
	}
	var table [256]byte
	table[0] = substituteOf(0)
	for i, a := range powers {
		table[a] = substituteOf(powers[255-i])
	}
	return table
}

// originals returns the bytes that have all substitutes.
func originals() [256]byte {
	var table [256]byte
	for a, substitute := range substitutes() {
		table[substitute] = byte(a)
	}
	return table
}
