package condition

import (
	"strconv"
	"strings"
)

// The digest is the 64-bit one that is known as FNV-1a.
const (
	digestStart  = 14695981039346656037
	digestFactor = 1099511628211
)

// hexDigits is how many digits the hexadecimal form of a number has.
const hexDigits = 16

// Digest returns the digest of a string.
func Digest(s string) uint64 {
	n := uint64(digestStart)
	for i := range len(s) {
		n = (n ^ uint64(s[i])) * digestFactor
	}
	return n
}

// Hex returns the hexadecimal form of a number.
func Hex(n uint64) string {
	digits := strconv.FormatUint(n, 16)
	return strings.Repeat("0", hexDigits-len(digits)) + digits
}
