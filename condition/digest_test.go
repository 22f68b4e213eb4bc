package condition_test

import (
	"fmt"
	"math"
	"math/rand"
	"strings"
	"testing"

	"hodoscope/condition"
)

// P4.9, P4.13

func TestKnownDigests(t *testing.T) {
	for _, x := range []struct {
		s string
		n uint64
	}{
		{"", 14695981039346656037},
		{"a", 0xaf63dc4c8601ec8c},
		{"b", 0xaf63df4c8601f1a5},
		{"foobar", 0x85944171f73967e8},
		{"hello", 0xa430d84680aabd0b},
		{"\x00", 0xaf63bd4c8601b7df},
		{"\xff", 0xaf64724c8602eb6e},
	} {
		checkSame(t, fmt.Sprintf("Digest of %q", x.s), condition.Digest(x.s), x.n)
	}
}

func randomBytes(r *rand.Rand, n int) []byte {
	l := make([]byte, n)
	for i := range l {
		l[i] = byte(r.Intn(256))
	}
	return l
}

func TestDigestsOfManyStrings(t *testing.T) {
	r := rand.New(rand.NewSource(1))
	for n := range 200 {
		s := string(randomBytes(r, n))
		checkSame(t, fmt.Sprintf("%q", s), condition.Hex(condition.Digest(s)), sumOf(s))
	}
	long := strings.Repeat("condition\n", 100000)
	checkSame(t, "a long string", condition.Hex(condition.Digest(long)), sumOf(long))
}

func TestOneByteChangesTheDigest(t *testing.T) {
	r := rand.New(rand.NewSource(2))
	for n := 1; n <= 20; n++ {
		l := randomBytes(r, n)
		digest := condition.Digest(string(l))
		for i, old := range l {
			for c := range 256 {
				l[i] = byte(c)
				if same := condition.Digest(string(l)) == digest; same != (byte(c) == old) {
					t.Fatalf("%q with %q at %d: same digest %v", l, old, i, same)
				}
			}
			l[i] = old
		}
	}
}

func TestHex(t *testing.T) {
	for _, x := range []struct {
		n uint64
		s string
	}{
		{0, "0000000000000000"},
		{1, "0000000000000001"},
		{10, "000000000000000a"},
		{16, "0000000000000010"},
		{0x0fedcba987654321, "0fedcba987654321"},
		{1 << 63, "8000000000000000"},
		{math.MaxUint64, "ffffffffffffffff"},
		{0xcbf29ce484222325, "cbf29ce484222325"},
	} {
		checkSame(t, x.n, condition.Hex(x.n), x.s)
	}
	for i := range 64 {
		checkSame(t, i, condition.Hex(1<<i), fmt.Sprintf("%016x", uint64(1)<<i))
	}
}
