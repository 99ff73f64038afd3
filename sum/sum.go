// Package sum has sums of bytes: see doc/01-sum.md.
package sum

const (
	start   = 13
	factor  = 151
	modulus = 65521 // a prime, so that one byte turned always changes the sum
)

// sealSize is how many bytes a sum takes: every rest of modulus fits into two.
const sealSize = 2

// Of is the sum of b.
func Of(b []byte) int {
	s := start
	for _, x := range b {
		// The rest is taken at each byte, so that no length of b overflows an int.
		s = (s*factor + int(x) + 1) % modulus
	}
	return s
}

// Seal is b with its sum behind, the upper byte first.
func Seal(b []byte) []byte {
	s := Of(b)
	// A list of its own: an append to b could write into the spare room of who handed it in.
	out := make([]byte, 0, len(b)+sealSize)
	out = append(out, b...)
	return append(out, byte(s>>8), byte(s))
}

// Sealed tells whether b ends with the sum of what is ahead of it.
func Sealed(b []byte) bool {
	ahead := len(b) - sealSize
	if ahead < 0 {
		return false
	}
	// The two bytes must be the sum itself: a number with the same rest is not it.
	return int(b[ahead])<<8|int(b[ahead+1]) == Of(b[:ahead])
}
