package readout

import (
	"iter"
	"slices"
	"strings"

	"hodoscope/api"
)

// readHead returns the frame that has a head, still without its hits, and how many these are.
func readHead(s string) (f api.Frame, count int) {
	r := &reader{s[len(mark):]}
	var numbers []int
	for _, read := range r.head() {
		numbers = append(numbers, read())
	}
	return api.Frame{Link: numbers[0], Slot: numbers[1], Event: numbers[2], Time: numbers[3]}, numbers[4]
}

// hitsIn yields the hits that have the bytes s.
func hitsIn(s string) iter.Seq[api.Raw] {
	return func(yield func(api.Raw) bool) {
		r := &reader{s}
		for r.rest != "" {
			if addr, adc := r.two(), r.two(); !yield(api.Raw{Addr: addr, Adc: adc}) {
				return
			}
		}
	}
}

// Unpack returns the frame whose bytes are the beginning of s, and how many these are.
func Unpack(s string) (f api.Frame, used int, e api.Errno) {
	if !strings.HasPrefix(s, mark) || len(s) < headSize || !isChecked(s[:headSize]) {
		return api.Frame{}, 0, api.ErrForm
	}
	f, count := readHead(s)
	used = headSize + count*hitSize + checkSize
	if !validHead(f, count) || len(s) < used {
		return api.Frame{}, 0, api.ErrForm
	}
	rest := s[headSize:used]
	hits := hitsIn(rest[:count*hitSize])
	// The bytes of valid hits have no mark in them. So, if the check is computed of valid hits only, Scan computes it of no
	// byte again for each of many heads.
	if !validHits(hits) || !isChecked(rest) {
		return api.Frame{}, 0, api.ErrForm
	}
	f.L = slices.Collect(hits)
	return f, used, api.OK
}

// Scan returns the frames in a string, and how many bytes are no frame's.
func Scan(s string) (l []api.Frame, lost int) {
	at := 0
scan:
	for at < len(s) {
		f, used, e := Unpack(s[at:])
		if e == api.OK {
			l = append(l, f)
			at += used
			continue scan
		}
		at++
		lost++
	}
	return l, lost
}
