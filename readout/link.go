package readout

import (
	"strings"

	"hodoscope/api"
)

// Link is a link with flow control.
type Link struct {
	// self is the link's own address, which tells it from a link that NewLink did not make, and from a copy.
	self          *Link
	room, credits int
	queue, buffer queue[string]
}

// NewLink returns an empty link.
func NewLink(room, credits int) (*Link, api.Errno) {
	if !within(room, 1, api.MaxQueue) || !within(credits, 1, api.MaxQueue) {
		return nil, api.ErrArg
	}
	l := &Link{room: room, credits: credits}
	l.self = l
	return l, api.OK
}

// made reports whether NewLink returned the link.
func (l *Link) made() bool {
	return l != nil && l.self == l
}

// Offer puts a string at the end of the queue.
func (l *Link) Offer(s string) api.Errno {
	switch {
	case !l.made():
		return api.ErrNil
	case len(s) > api.MaxFrame:
		return api.ErrLong
	case l.queue.size() == l.room:
		return api.ErrFull
	}
	// A copy, since the string may be a part of a long one, which would stay in memory.
	l.queue.put(strings.Clone(s))
	return api.OK
}

// flipped returns a string with some of its bits inverted, once for each time that their numbers are in flips.
func flipped(s string, flips []int) string {
	bytes := []byte(s)
	for _, bit := range flips {
		if within(bit, 0, 8*len(bytes)-1) {
			bytes[bit/8] ^= 0x80 >> (bit % 8)
		}
	}
	return string(bytes)
}

// Send sends the first string of the queue, with some of its bits inverted.
func (l *Link) Send(flips []int) bool {
	if !l.made() || l.queue.size() == 0 || l.credits == 0 {
		return false
	}
	l.credits--
	l.buffer.put(flipped(l.queue.take(), flips))
	return true
}

// Take takes the first string of the buffer, which gives a credit back.
func (l *Link) Take() (string, bool) {
	if !l.made() || l.buffer.size() == 0 {
		return "", false
	}
	l.credits++
	return l.buffer.take(), true
}

// Waiting returns how many strings are in the queue and in the buffer, and how many credits there are.
func (l *Link) Waiting() (queue, buffer, credits int) {
	if !l.made() {
		return 0, 0, 0
	}
	return l.queue.size(), l.buffer.size(), l.credits
}
