package readout_test

import (
	"math/rand"
	"strings"
	"testing"

	"hodoscope/api"
	"hodoscope/readout"
)

// P5.3: Unpack, Scan.

// checkUnpack checks that s begins with the bytes of a frame.
func checkUnpack(t *testing.T, s string, want api.Frame, wantUsed int) {
	t.Helper()
	f, used, e := readout.Unpack(s)
	if e != api.OK || used != wantUsed || !sameFrame(f, want) {
		t.Errorf("Unpack(%q): %v, %d, error %d, want %v, %d", s, f, used, e, want, wantUsed)
	}
}

func checkNoFrame(t *testing.T, what any, s string) {
	t.Helper()
	f, used, e := readout.Unpack(s)
	if e != api.ErrForm || used != 0 || !sameFrame(f, api.Frame{}) {
		t.Errorf("Unpack of %v: %v, %d, error %d, want ErrForm", what, f, used, e)
	}
}

func TestUnpack(t *testing.T) {
	for _, f := range goodFrames() {
		s := mustPack(t, f)
		for _, rest := range []string{"", "\x00", "\xff\xff", "abc", s, s[:10]} {
			checkUnpack(t, s+rest, f, len(s))
		}
	}
}

func TestUnpackOfWhatIsCutOff(t *testing.T) {
	for _, f := range goodFrames() {
		s := mustPack(t, f)
		step := 1 + len(s)/200
		for n := 0; n < len(s); n += step {
			checkNoFrame(t, n, s[:n])
			if n > 0 {
				checkNoFrame(t, n, s[n:])
			}
		}
		checkNoFrame(t, "the last byte", s[:len(s)-1])
		checkNoFrame(t, "a byte before it", "\x5a"+s)
	}
}

// Bytes whose checks are right, of frames that are not valid.
func TestUnpackOfFramesThatAreNotValid(t *testing.T) {
	for _, f := range []api.Frame{
		frame(16, 5, 7, 150, 1, 1), frame(255, 5, 7, 150, 1, 1),
		frame(2, 32, 7, 150, 1, 1), frame(2, 255, 7, 150, 1, 1),
		frame(2, 5, 7, api.MaxTime+1, 1, 1), frame(2, 5, 7, 1<<48-1, 1, 1),
		frame(2, 5, 7, 150, 4096, 1), frame(2, 5, 7, 150, 65535, 1), frame(2, 5, 7, 150, 1, 1, 4096, 1),
		frame(2, 5, 7, 150, 1, 0), frame(2, 5, 7, 150, 1, 4096), frame(2, 5, 7, 150, 1, 65535),
		frame(2, 5, 7, 150, 1, 1, 1, 1), frame(2, 5, 7, 150, 2, 1, 1, 1), frame(2, 5, 7, 150, 1, 1, 3, 1, 2, 1),
		{L: append(manyHits(4096), api.Raw{Addr: 4095, Adc: 1})},
		{L: append(manyHits(4096), api.Raw{Addr: 4096, Adc: 1})},
	} {
		checkNoFrame(t, f, bytesOf(f, len(f.L)))
	}
	f := frame(2, 5, 7, 150, 1, 1, 2, 2)
	checkUnpack(t, bytesOf(f, 2), f, 28)
	for _, count := range []int{0, 1, 3, 4, 4096, 65535} {
		checkNoFrame(t, count, bytesOf(f, count))
	}
}

func TestUnpackOfWrongMarksAndChecks(t *testing.T) {
	s := mustPack(t, frame(2, 5, 7, 150, 1, 1))
	for _, begin := range []string{"\x5a\xc2", "\x5b\xc3", "\xc3\x5a", "\x00\x00"} {
		checkNoFrame(t, begin, withCheck(begin+s[2:16])+s[18:])
	}
	for _, i := range []int{16, 17, len(s) - 2, len(s) - 1} {
		for x := 1; x < 256; x++ {
			b := []byte(s)
			b[i] ^= byte(x)
			checkNoFrame(t, i, string(b))
		}
	}
	empty := mustPack(t, frame(2, 5, 7, 150))
	checkNoFrame(t, "the check of the empty string is 0", empty[:18]+"\x00\x00")
}

func checkScan(t *testing.T, what any, s string, wantLost int, want ...api.Frame) {
	t.Helper()
	l, lost := readout.Scan(s)
	checkFrames(t, what, l, want)
	checkSame(t, what, lost, wantLost)
}

func TestScan(t *testing.T) {
	f, g := frame(2, 5, 7, 150, 1, 1), frame(0, 31, 0x5ac35ac3, 0x5ac35ac3)
	a, b := mustPack(t, f), mustPack(t, g)
	checkScan(t, "nothing", "", 0)
	checkScan(t, "no frame", "\x5a\xc3", 2)
	checkScan(t, "one byte", "\x5a", 1)
	checkScan(t, "one", a, 0, f)
	checkScan(t, "two", a+b, 0, f, g)
	checkScan(t, "the same twice", a+a, 0, f, f)
	checkScan(t, "bytes between", "x"+a+"yz"+b+"\x5a", 4, f, g)
	checkScan(t, "marks between", "\x5a\xc3"+a+"\x5a"+b+"\x5a\xc3\x5a\xc3", 7, f, g)
	checkScan(t, "cut off", a[:len(a)-1]+b, len(a)-1, g)
	checkScan(t, "the head only", a[:18]+b, 18, g)
	checkScan(t, "cut off at the end", a+b[:len(b)-1], len(b)-1, f)
	checkScan(t, "without its beginning", a[1:]+b, len(a)-1, g)
	broken := []byte(a)
	broken[20] ^= 1
	checkScan(t, "broken", string(broken)+b+string(broken), 2*len(a), g)
}

// A head says that many hits follow, but there are other frames.
func TestScanOfFramesInsteadOfHits(t *testing.T) {
	f := frame(2, 5, 7, 150, 1, 1)
	head := bytesOf(frame(1, 1, 1, 1), 4096)[:18]
	s := mustPack(t, f)
	checkScan(t, "frames", head+strings.Repeat(s, 3), 18, f, f, f)
	l, lost := readout.Scan(strings.Repeat(head, 50000) + s)
	checkFrames(t, "many heads", l, []api.Frame{f})
	checkSame(t, "bytes of many heads", lost, 50000*18)
	wrong := bytesOf(frameOf(manyHits(4096)), 4096)
	wrong = wrong[:len(wrong)-1] + "\x00"
	l, lost = readout.Scan(strings.Repeat(wrong, 60) + s)
	checkFrames(t, "many wrong checks", l, []api.Frame{f})
	checkSame(t, "bytes with wrong checks", lost, 60*len(wrong))
}

// A frame whose hits' check is wrong, in the head of which another frame begins.
func TestScanOfAFrameInAHead(t *testing.T) {
	inner := mustPack(t, frame(2, 5, 7, 150))
	outer := bytesOf(frame(1, 1, 0x5ac30205, 7), 0)
	checkScan(t, "a mark in the head", outer[:len(outer)-1]+inner, len(outer)-1, frame(2, 5, 7, 150))
	checkScan(t, "all of it", outer+inner, 0, frame(1, 1, 0x5ac30205, 7), frame(2, 5, 7, 150))
}

// plainScan tries all places with Unpack.
func plainScan(s string) (l []api.Frame, lost int) {
	for s != "" {
		f, used, e := readout.Unpack(s)
		if e != api.OK {
			lost++
			used = 1
		} else {
			l = append(l, f)
		}
		s = s[used:]
	}
	return l, lost
}

func TestScanOfRandomBytes(t *testing.T) {
	r := rand.New(rand.NewSource(4))
	for range 300 {
		var s strings.Builder
		var want []api.Frame
		lost := 0
		for range between(r, 0, 8) {
			f := randomFrame(r)
			b := mustPack(t, f)
			switch between(r, 0, 3) {
			case 0:
				noise := "\x5a\xc3\x00"[:between(r, 0, 3)]
				s.WriteString(noise)
				lost += len(noise)
			case 1:
				n := between(r, 0, len(b)-1)
				s.WriteString(b[:n])
				lost += n
			default:
				s.WriteString(b)
				want = append(want, f)
			}
		}
		l, n := plainScan(s.String())
		checkFrames(t, "plain", l, want)
		checkScan(t, "random", s.String(), lost, want...)
		checkSame(t, "lost", n, lost)
	}
}

// P5.9 and P0.3: Unpack of Pack is the frame, and bits that are inverted among sixteen consecutive ones are seen.

func TestUnpackOfPack(t *testing.T) {
	r := rand.New(rand.NewSource(5))
	for range 500 {
		f := randomFrame(r)
		s := mustPack(t, f)
		checkUnpack(t, s, f, len(s))
		checkUnpack(t, s+mustPack(t, randomFrame(r)), f, len(s))
	}
}

// burst inverts the bits of a pattern of sixteen bits, the highest one first, from a bit on.
func burst(b []byte, from, pattern int) {
	for i := range 16 {
		if bit := from + i; pattern>>(15-i)&1 == 1 && bit < 8*len(b) {
			b[bit/8] ^= 0x80 >> (bit % 8)
		}
	}
}

// checkBurst checks that a frame's bytes are no frame's with the bits of a pattern inverted; size is how many bytes it has,
// which others may follow.
func checkBurst(t *testing.T, b []byte, size, from, pattern int) {
	t.Helper()
	burst(b[:size], from, pattern)
	if _, _, e := readout.Unpack(string(b)); e != api.ErrForm {
		t.Fatalf("bits from %d on, pattern %x: error %d", from, pattern, e)
	}
	burst(b[:size], from, pattern)
}

// Each pattern of sixteen bits at each place of short frames.
func TestAllBursts(t *testing.T) {
	f := frame(2, 5, 7, 150)
	s := mustPack(t, f)
	b := []byte(s + s)
	for from := range 8 * len(s) {
		for pattern := 0x8000; pattern < 0x10000; pattern++ {
			if from+16 <= 8*len(s) || pattern<<(8*len(s)-from)&0xffff == 0 {
				checkBurst(t, b, len(s), from, pattern)
			}
		}
	}
	checkUnpack(t, string(b), f, len(s))
}

func TestBurstsInFramesWithHits(t *testing.T) {
	r := rand.New(rand.NewSource(6))
	for _, f := range append(goodFrames(), randomFrame(r), randomFrame(r), randomFrame(r)) {
		s := mustPack(t, f)
		for _, rest := range []string{"", strings.Repeat("\x00\xff", 20), strings.Repeat(s, 1+20/len(s))} {
			b := []byte(s + rest)
			tries := 40000 / (1 + len(s)/20)
			for range tries {
				checkBurst(t, b, len(s), r.Intn(8*len(s)), 0x8000|r.Intn(0x8000))
			}
			for _, from := range []int{0, 8*16 - 1, 8*18 - 15, 8*18 - 1, 8 * 18, 8*len(s) - 16, 8*len(s) - 1} {
				checkBurst(t, b, len(s), from, 0x8000)
				checkBurst(t, b, len(s), from, 0xffff)
				checkBurst(t, b, len(s), from, 0x8001|r.Intn(0x8000))
			}
		}
	}
}

// The number of hits in a head is changed: the hits that follow are not taken for those of this frame.
func TestBurstsInTheNumberOfHits(t *testing.T) {
	f := frameOf(manyHits(64))
	s := mustPack(t, f)
	b := []byte(s + strings.Repeat(s, 3))
	for pattern := 0x8000; pattern < 0x10000; pattern++ {
		for from := 8*14 - 8; from < 8*16; from += 3 {
			checkBurst(t, b, len(s), from, pattern)
		}
	}
}
