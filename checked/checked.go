// Package checked is layer 1: integer arithmetic that says whether the result
// fits, shifts, and numbers of fewer bits.
package checked

// intBits is the number of bits of an int.
const intBits = 64

// intBytes is the number of bytes of an int.
const intBytes = intBits / 8

// Add returns a + b, and whether it fits.
func Add(a, b int) (int, bool) {
	sum, wraps := addWrapped(a, b)
	if wraps != 0 {
		return 0, false
	}
	return sum, true
}

// addWrapped returns a number that fits and the number of times 2^64 must be
// added to it to get a + b: 1, 0 or -1.
func addWrapped(a, b int) (sum, wraps int) {
	sum = a + b
	switch {
	case b > 0 && sum < a:
		return sum, 1
	case b < 0 && sum > a:
		return sum, -1
	}
	return sum, 0
}

// Sub returns a - b, and whether it fits.
func Sub(a, b int) (int, bool) {
	// Adding the negative of b would fail for the least number, which has none.
	diff := a - b
	if b > 0 && diff > a || b < 0 && diff < a {
		return 0, false
	}
	return diff, true
}

// Mul returns a times b, and whether it fits.
func Mul(a, b int) (int, bool) {
	if b == 0 {
		return 0, true
	}
	// The division below cannot tell this case: the least number divided by -1
	// wraps to itself.
	if b == -1 {
		return Neg(a)
	}
	product := a * b
	if product/b != a {
		return 0, false
	}
	return product, true
}

// Neg returns -a, and whether it fits.
func Neg(a int) (int, bool) {
	return Sub(0, a)
}

// Sum returns the sum of all numbers of l, and whether it fits.
func Sum(l []int) (int, bool) {
	// Wraps in one direction undo those in the other, so that only their
	// balance at the end decides.
	sum, balance := 0, 0
	for _, x := range l {
		next, wraps := addWrapped(sum, x)
		sum = next
		balance += wraps
	}
	if balance != 0 {
		return 0, false
	}
	return sum, true
}

// Shl returns a times 2^n, and whether n is from 0 to 63 and the product fits.
func Shl(a, n int) (int, bool) {
	if !isShift(n) {
		return 0, false
	}
	up := a << n
	if up>>n != a {
		return 0, false
	}
	return up, true
}

// Shr returns a divided by 2^n, rounded down, and whether n is from 0 to 63.
func Shr(a, n int) (int, bool) {
	if !isShift(n) {
		return 0, false
	}
	return a >> n, true
}

// isShift reports whether the calls shift by n; the language panics for n < 0.
func isShift(n int) bool {
	return n >= 0 && n < intBits
}

// Fits reports whether bits is from 1 to 64 and a fits into that many bits.
func Fits(a, bits int) bool {
	narrow, ok := Narrow(a, bits)
	return ok && narrow == a
}

// Narrow returns the number that fits into that many bits and differs from a by
// a multiple of 2^bits, and whether bits is from 1 to 64.
func Narrow(a, bits int) (int, bool) {
	if bits < 1 || bits > intBits {
		return 0, false
	}
	// The shift up drops the high bits; the one down repeats the sign.
	unused := intBits - bits
	return a << unused >> unused, true
}

// Pack returns high times 2^32 plus low, where 2^32 is added to a negative low.
func Pack(high, low int32) int {
	// Without the conversion to uint32 the sign of low would overwrite high.
	return int(high)<<32 | int(uint32(low))
}

// Unpack returns the two numbers from which Pack makes a.
func Unpack(a int) (high, low int32) {
	return int32(a >> 32), int32(a)
}

// Bytes returns the n bytes of a, the most significant one first, and whether n
// is from 1 to 8 and a fits into them.
func Bytes(a, n int) (string, bool) {
	if !isByteCount(n) || !Fits(a, 8*n) {
		return "", false
	}
	l := make([]byte, n)
	for i := range l {
		l[n-1-i] = byte(a >> (8 * i))
	}
	return string(l), true
}

// Of returns the number whose bytes are those of s, and whether s has 1 to 8.
func Of(s string) (int, bool) {
	if !isByteCount(len(s)) {
		return 0, false
	}
	a := 0
	for i := range len(s) {
		a = a<<8 | int(s[i])
	}
	return Narrow(a, 8*len(s))
}

// isByteCount reports whether a number may be written with n bytes.
func isByteCount(n int) bool {
	return n >= 1 && n <= intBytes
}
