package fixed

// WholeSize is the number of bytes of Whole.
const WholeSize = 8

// signBit, turned over, puts the negative integers below the others.
const signBit = 128

// Whole is n in bytes that have the order of integers.
func Whole(n int64) [WholeSize]byte {
	var a [WholeSize]byte
	for i := range a {
		a[i] = byte(uint64(n) >> (8 * (WholeSize - 1 - i)))
	}
	a[0] ^= signBit
	return a
}

// ReadWhole is the integer of which a is Whole.
func ReadWhole(a [WholeSize]byte) int64 {
	a[0] ^= signBit
	n := uint64(0)
	for _, c := range a {
		n = n<<8 | uint64(c)
	}
	return int64(n)
}
