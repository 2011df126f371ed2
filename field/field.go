// Package field spells numbers as bytes, as the bodies of several kinds of sectors hold them, and tells what stands behind them.
package field

// Fits tells whether n can be spelled by so many bytes.
func Fits(n, size int) bool {
	// A number below 0 is never shifted down to 0.
	for ; size > 0 && n > 0; size-- {
		n >>= 8
	}
	return n == 0
}

// Put spells n over all of b, the highest byte first.
func Put(b []byte, n int) {
	for i := len(b) - 1; i >= 0; i-- {
		b[i] = byte(n)
		n >>= 8
	}
}

// Get tells the number that Put spelled.
func Get(b []byte) int {
	n := 0
	for _, x := range b {
		n = n<<8 | int(x)
	}
	return n
}

// Blank tells whether b is zeros.
func Blank(b []byte) bool {
	for _, x := range b {
		if x != 0 {
			return false
		}
	}
	return true
}
