package readout_test

import (
	"slices"
	"testing"

	"hodoscope/api"
	"hodoscope/readout"
)

// The rows of the chapter's table of examples.

func TestExamplesOfMeasurements(t *testing.T) {
	l, e := readout.Suppress([]int{5, 9, 20, 4}, 4, 4, []int{2})
	checkHits(t, "Suppress", l, hits(1, 5))
	sum, f := readout.Pile([]int{4000, 5}, []int{100, 1, 2})
	checkSame(t, "Pile", slices.Equal(sum, []int{4095, 6, 2}), true)
	checkSame(t, "errors", [2]api.Errno{e, f}, [2]api.Errno{})
}

func TestExamplesOfFrames(t *testing.T) {
	checkSame(t, "Crc of the empty string", readout.Crc(""), 65535)
	checkSame(t, "Crc of 123456789", readout.Crc("123456789"), 0x29b1)
	s := mustPack(t, frame(2, 5, 7, 150))
	checkSame(t, "bytes", len(s), 20)
	head := string([]byte{0x5a, 0xc3, 2, 5, 0, 0, 0, 7, 0, 0, 0, 0, 0, 150, 0, 0})
	check := readout.Crc(head)
	checkSame(t, "Pack", s, head+string([]byte{byte(check >> 8), byte(check), 0xff, 0xff}))
}

func TestExamplesOfBuilders(t *testing.T) {
	b, e := readout.NewBuilder(example(), 10, 2)
	checkSame(t, "NewBuilder", e, api.OK)
	checkSame(t, "Take", b.Take(frame(2, 5, 7, 150), 0), api.OK)
	checkEvents(t, "Events", b.Events(), event(7, 150))
	checkSame(t, "Take of it again", b.Take(frame(2, 5, 7, 150), 1), api.ErrState)
	checkSame(t, "Take with Slot 6", b.Take(frame(2, 6, 7, 150), 1), api.ErrNone)
	checkSame(t, "Counts", b.Counts(), api.Counts{Unknown: 1, Late: 1})
}

func TestExamplesOfLinks(t *testing.T) {
	l := newLink(t, 2, 1)
	offer(t, l, "a", api.OK)
	offer(t, l, "b", api.OK)
	offer(t, l, "c", api.ErrFull)
	checkSame(t, "Send", [2]bool{l.Send(nil), l.Send(nil)}, [2]bool{true, false})
	checkWaiting(t, l, 1, 1, 0)
	take(t, l, "a")
	checkSame(t, "Send", l.Send(nil), true)
	take(t, l, "b")
	offer(t, l, "a", api.OK)
	checkSame(t, "Send with flips", l.Send([]int{7}), true)
	take(t, l, "\x60")
}
