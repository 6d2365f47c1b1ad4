// Package fixed writes integers to a fixed number of bytes, the highest byte first.
package fixed

// Put writes n to all bytes of b; what does not fit is cut off.
func Put(b []byte, n int) {
	for i := range b {
		b[len(b)-1-i] = byte(n >> (8 * i))
	}
}

// Get is the integer that all bytes of b make.
func Get[B []byte | string](b B) int {
	n := 0
	for i := range len(b) {
		n = n<<8 | int(b[i])
	}
	return n
}
