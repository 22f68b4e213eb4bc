package readout_test

import (
	"math/rand"
	"slices"
	"strings"
	"testing"

	"hodoscope/api"
	"hodoscope/readout"
)

// P5.2: Crc, Check, Pack.

// plainCrc is the check of a string as the chapter says it, bit by bit.
func plainCrc(s string) int {
	n := 65535
	for i := range len(s) {
		for bit := 7; bit >= 0; bit-- {
			differs := n/32768 != int(s[i])>>bit&1
			n = n * 2 % 65536
			if differs {
				n ^= 4129
			}
		}
	}
	return n
}

// bigEndian is a number of some bytes.
func bigEndian(n, size int) string {
	s := ""
	for range size {
		s = string([]byte{byte(n)}) + s
		n >>= 8
	}
	return s
}

func withCheck(s string) string { return s + bigEndian(plainCrc(s), 2) }

// bytesOf returns the bytes that a frame would have, also if it is not valid, with a number of hits that need not be right.
func bytesOf(f api.Frame, count int) string {
	head := "\x5a\xc3" + bigEndian(f.Link, 1) + bigEndian(f.Slot, 1) + bigEndian(f.Event, 4) + bigEndian(f.Time, 6) + bigEndian(count, 2)
	var list strings.Builder
	for _, h := range f.L {
		list.WriteString(bigEndian(h.Addr, 2) + bigEndian(h.Adc, 2))
	}
	return withCheck(head) + withCheck(list.String())
}

func TestCrc(t *testing.T) {
	checkSame(t, "Crc of the empty string", readout.Crc(""), 65535)
	checkSame(t, "Crc of 123456789", readout.Crc("123456789"), 10673)
	for i := range 256 {
		s := string([]byte{byte(i)})
		checkSame(t, i, readout.Crc(s), plainCrc(s))
		checkSame(t, i, readout.Crc("ab"+s), plainCrc("ab"+s))
	}
	r := rand.New(rand.NewSource(2))
	for range 2000 {
		s := make([]byte, between(r, 0, 60))
		r.Read(s)
		checkSame(t, s, readout.Crc(string(s)), plainCrc(string(s)))
	}
	long := strings.Repeat("\xff\x00\x81", 10000)
	checkSame(t, "Crc of a long string", readout.Crc(long), plainCrc(long))
}

// badFrames are frames that are not valid, each for another reason.
func badFrames() []api.Frame {
	var l []api.Frame
	for _, n := range outside(0, 15) {
		l = append(l, frame(n, 5, 7, 150, 1, 1))
	}
	for _, n := range outside(0, 31) {
		l = append(l, frame(2, n, 7, 150, 1, 1))
	}
	for _, n := range outside(0, api.MaxEvent) {
		l = append(l, frame(2, 5, n, 150, 1, 1))
	}
	for _, n := range outside(0, api.MaxTime) {
		l = append(l, frame(2, 5, 7, n, 1, 1))
	}
	for _, n := range outside(0, 4095) {
		l = append(l, frame(2, 5, 7, 150, n, 1), frame(2, 5, 7, 150, 1, 1, n, 1), frame(2, 5, 7, 150, n, 1, 4095, 1))
	}
	for _, n := range append(outside(1, 4095), 0) {
		l = append(l, frame(2, 5, 7, 150, 1, n), frame(2, 5, 7, 150, 0, 4095, 1, n, 2, 1))
	}
	return append(l,
		frame(2, 5, 7, 150, 1, 1, 1, 1),
		frame(2, 5, 7, 150, 1, 1, 0, 1),
		frame(2, 5, 7, 150, 0, 1, 2, 1, 1, 1, 3, 1),
		frame(2, 5, 7, 150, 0, 1, 1, 1, 2, 1, 2, 2),
		api.Frame{Link: 2, Slot: 5, L: append(manyHits(4096), api.Raw{Addr: 4096, Adc: 1})},
		api.Frame{Link: 2, Slot: 5, L: append(manyHits(4096), api.Raw{Addr: 4095, Adc: 1})},
	)
}

func goodFrames() []api.Frame {
	return []api.Frame{
		frame(0, 0, 0, 0),
		frame(2, 5, 7, 150),
		frame(15, 31, api.MaxEvent, api.MaxTime),
		frame(15, 31, api.MaxEvent, api.MaxTime, 4095, 4095),
		frame(2, 5, 7, 150, 0, 1, 4095, 4095),
		frame(2, 5, 7, 150, 3, 9, 4, 8, 5, 7),
		frame(0, 31, 0x5ac35ac3, 0x5ac35ac3),
		{Link: 1, Slot: 2, Event: 3, Time: 4, L: manyHits(4096)},
	}
}

func TestCheck(t *testing.T) {
	for _, f := range goodFrames() {
		checkSame(t, f, readout.Check(f), true)
	}
	for _, f := range badFrames() {
		checkSame(t, f, readout.Check(f), false)
	}
}

func TestPack(t *testing.T) {
	for _, f := range goodFrames() {
		checkSame(t, f, mustPack(t, f), bytesOf(f, len(f.L)))
	}
	for _, f := range badFrames() {
		checkFails(t, f, api.ErrArg, results(readout.Pack(f))...)
	}
	r := rand.New(rand.NewSource(3))
	for range 300 {
		f := randomFrame(r)
		checkSame(t, f, mustPack(t, f), bytesOf(f, len(f.L)))
	}
}

func TestPackByBytes(t *testing.T) {
	s := mustPack(t, frame(2, 5, 7, 150))
	head := "\x5a\xc3\x02\x05\x00\x00\x00\x07\x00\x00\x00\x00\x00\x96\x00\x00"
	checkSame(t, "without hits", s, withCheck(head)+"\xff\xff")
	s = mustPack(t, frame(15, 31, api.MaxEvent, api.MaxTime, 258, 772))
	head = "\x5a\xc3\x0f\x1f\xff\xff\xff\xff\x01\x00\x00\x00\x00\x00\x00\x01"
	checkSame(t, "with a hit", s, withCheck(head)+withCheck("\x01\x02\x03\x04"))
	checkSame(t, "bytes of 4096 hits", len(mustPack(t, frameOf(manyHits(4096)))), api.MaxFrame)
}

// frameOf is a frame with hits.
func frameOf(l []api.Raw) api.Frame {
	return api.Frame{Link: 2, Slot: 5, Event: 7, Time: 150, L: slices.Clone(l)}
}
