// Package field spells numbers and texts as bytes, as the bodies of several kinds of sectors hold them, and tells what they may be and what stands behind them.
package field

import "purlin/api"

// Fits tells whether n can be spelled by so many bytes.
func Fits(n, size int) bool {
	// A number below 0 is never shifted down to 0.
	for ; size > 0 && n > 0; size-- {
		n >>= 8
	}
	return n == 0
}

// Put spells n over all of b, the highest byte first.
func Put(b []byte, n int) {
	for i := len(b) - 1; i >= 0; i-- {
		b[i] = byte(n)
		n >>= 8
	}
}

// Get tells the number that Put spelled.
func Get(b []byte) int {
	n := 0
	for _, x := range b {
		n = n<<8 | int(x)
	}
	return n
}

// PutText spells s over all of b, which has room for it: its length in a byte, its bytes, zeros.
func PutText(b []byte, s string) {
	b[0] = byte(len(s))
	end := 1 + copy(b[1:], s)
	clear(b[end:])
}

// GetText tells the text that PutText spelled; false, if b, of a byte at least, spells none.
func GetText(b []byte) (string, bool) {
	end := 1 + int(b[0])
	if end > len(b) || !Blank(b[end:]) {
		return "", false
	}
	return string(b[1:end]), true
}

// IsKind tells whether n is a kind of files.
func IsKind(n int) bool {
	return n == api.KindFile || n == api.KindDir || n == api.KindLink
}

// Blank tells whether b is zeros.
func Blank(b []byte) bool {
	for _, x := range b {
		if x != 0 {
			return false
		}
	}
	return true
}
