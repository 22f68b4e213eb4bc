package readout

import (
	"iter"
	"slices"

	"hodoscope/api"
)

const (
	mark      = "\x5a\xc3" // the beginning of a frame
	headSize  = 18         // with the mark and the check
	hitSize   = 4
	checkSize = 2
)

// Crc returns the check of a string. It takes the eight steps of a byte at once: a bit of x says whether the step combines
// 4129, which is 2^12 + 2^5 + 1, with the number. The 2^12 of one of the first four steps is the highest bit four steps
// later, so it decides there too.
func Crc(s string) int {
	sum := uint16(0xffff)
	for i := range len(s) {
		x := uint16(byte(sum>>8) ^ s[i])
		x ^= x >> 4
		sum = sum<<8 ^ x<<12 ^ x<<5 ^ x
	}
	return int(sum)
}

// checked returns a string and, behind it, its check.
func checked(s string) string {
	w := &writer{[]byte(s)}
	w.two(Crc(s))
	return string(w.bytes)
}

// isChecked reports whether a string ends with the check of what is before it.
func isChecked(s string) bool {
	return s == checked(s[:len(s)-checkSize])
}

// validHead reports whether the numbers of a frame are valid, of which count is that of its hits.
func validHead(f api.Frame, count int) bool {
	return within(f.Link, 0, api.MaxLinks-1) && within(f.Slot, 0, api.MaxSlots-1) &&
		isNumber(f.Event) && isTime(f.Time) && count <= api.MaxChip
}

// validHits reports whether hits are valid, and their addresses rise.
func validHits(hits iter.Seq[api.Raw]) bool {
	before := -1
	for h := range hits {
		if !within(h.Addr, before+1, api.MaxChip-1) || !isSignal(h.Adc) {
			return false
		}
		before = h.Addr
	}
	return true
}

func isNumber(event int) bool {
	return within(event, 0, api.MaxEvent)
}

func isTime(n int) bool {
	return within(n, 0, api.MaxTime)
}

// isSignal reports whether a measurement is one that a hit may have.
func isSignal(adc int) bool {
	return within(adc, 1, api.MaxAdc)
}

// Check reports whether a frame is valid.
func Check(f api.Frame) bool {
	return validHead(f, len(f.L)) && validHits(slices.Values(f.L))
}

func chipOf(f api.Frame) api.Chip {
	return api.Chip{Link: f.Link, Slot: f.Slot}
}

func headBytes(f api.Frame) string {
	w := &writer{[]byte(mark)}
	numbers := []int{f.Link, f.Slot, f.Event, f.Time, len(f.L)}
	for i, write := range w.head() {
		write(numbers[i])
	}
	return string(w.bytes)
}

func hitBytes(l []api.Raw) string {
	w := &writer{}
	for _, h := range l {
		w.two(h.Addr)
		w.two(h.Adc)
	}
	return string(w.bytes)
}

// Pack returns the bytes of a frame.
func Pack(f api.Frame) (string, api.Errno) {
	if !Check(f) {
		return "", api.ErrArg
	}
	return checked(headBytes(f)) + checked(hitBytes(f.L)), api.OK
}
