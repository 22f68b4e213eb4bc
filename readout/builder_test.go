package readout_test

import (
	"slices"
	"testing"

	"hodoscope/api"
	"hodoscope/readout"
)

// P5.6 to P5.8 and P5.12: event builders.

func newBuilder(t *testing.T, d api.Detector, window, most int) *readout.Builder {
	t.Helper()
	b, e := readout.NewBuilder(d, window, most)
	if b == nil || e != api.OK {
		t.Fatalf("NewBuilder(%d, %d): error %d", window, most, e)
	}
	return b
}

func checkTake(t *testing.T, b *readout.Builder, f api.Frame, now int, want api.Errno) {
	t.Helper()
	if e := b.Take(f, now); e != want {
		t.Errorf("Take(%v, %d): error %d, want %d", f, now, e, want)
	}
}

func checkTick(t *testing.T, b *readout.Builder, now int, want api.Errno) {
	t.Helper()
	if e := b.Tick(now); e != want {
		t.Errorf("Tick(%d): error %d, want %d", now, e, want)
	}
}

func flush(t *testing.T, b *readout.Builder) {
	t.Helper()
	checkSame(t, "Flush", b.Flush(), api.OK)
}

func checkOpen(t *testing.T, b *readout.Builder, want ...int) {
	t.Helper()
	if l := b.Open(); !slices.Equal(l, want) {
		t.Errorf("Open: %v, want %v", l, want)
	}
}

// checkOut checks the events in the output, which is then empty.
func checkOut(t *testing.T, b *readout.Builder, want ...api.Event) {
	t.Helper()
	checkEvents(t, "Events", b.Events(), want...)
	checkEvents(t, "Events again", b.Events())
}

func checkCounts(t *testing.T, b *readout.Builder, unknown, late, stray, twice int) {
	t.Helper()
	checkSame(t, "Counts", b.Counts(), api.Counts{Unknown: unknown, Late: late, Stray: stray, Twice: twice})
}

func TestNewBuilder(t *testing.T) {
	for _, window := range []int{0, 1, 1<<20 - 1, 1 << 20} {
		for _, most := range []int{1, 2, 255, 256} {
			b := newBuilder(t, example(), window, most)
			checkOpen(t, b)
			checkOut(t, b)
			checkCounts(t, b, 0, 0, 0, 0)
		}
	}
	for _, n := range outside(0, 1<<20) {
		checkNoBuilder(t, example(), n, 1)
	}
	for _, n := range append(outside(1, 256), 0) {
		checkNoBuilder(t, example(), 5, n)
	}
	for _, d := range badDetectors() {
		checkNoBuilder(t, d, 5, 1)
		checkNoBuilder(t, d, -1, 0)
	}
}

func checkNoBuilder(t *testing.T, d api.Detector, window, most int) {
	t.Helper()
	if b, e := readout.NewBuilder(d, window, most); b != nil || e != api.ErrArg {
		t.Errorf("NewBuilder(%s, %d, %d): %v, error %d", d.Name, window, most, b, e)
	}
}

func TestTimes(t *testing.T) {
	b := newBuilder(t, mixed(), 5, 3)
	checkTick(t, b, 0, api.OK)
	checkTick(t, b, 10, api.OK)
	checkTick(t, b, 10, api.OK)
	for _, n := range outside(0, api.MaxTime) {
		checkTick(t, b, n, api.ErrArg)
		checkTake(t, b, frame(3, 2, 1, 150), n, api.ErrArg)
	}
	checkTick(t, b, 9, api.ErrRange)
	checkTick(t, b, 0, api.ErrRange)
	checkTake(t, b, frame(3, 2, 1, 150), 9, api.ErrRange)
	checkTake(t, b, frame(3, 2, 1, 150), 10, api.OK)
	checkTake(t, b, frame(3, 2, 2, 150), 12, api.OK)
	checkTick(t, b, 11, api.ErrRange)
	checkTake(t, b, frame(3, 2, 3, 150), 11, api.ErrRange)
	checkOpen(t, b, 1, 2)
	flush(t, b)
	checkTick(t, b, 11, api.ErrRange)
	checkTick(t, b, api.MaxTime, api.OK)
	checkTick(t, b, api.MaxTime-1, api.ErrRange)
	checkTake(t, b, frame(3, 2, 5, 150), api.MaxTime, api.OK)
	checkOpen(t, b, 5)
	checkCounts(t, b, 0, 0, 0, 0)
}

// A frame that is not valid is ErrArg, also at a time that is not valid or earlier; it does not tick, and is not counted.
func TestFramesThatAreNotValid(t *testing.T) {
	b := newBuilder(t, mixed(), 5, 3)
	checkTake(t, b, frame(3, 2, 1, 150), 10, api.OK)
	for _, f := range badFrames() {
		for _, now := range []int{10, 9, 1000, -1, api.MaxTime + 1} {
			checkTake(t, b, f, now, api.ErrArg)
		}
	}
	checkOpen(t, b, 1)
	checkTick(t, b, 10, api.OK)
	checkCounts(t, b, 0, 0, 0, 0)
}

// all the chips of mixed at 150, and an event with samples of all of them.
func mixedFrames(number int) ([]api.Frame, api.Event) {
	return []api.Frame{
		frame(3, 2, number, 150, 1, 11, 7, 12),
		frame(0, 30, number, 150, 0, 13, 3, 14),
		frame(1, 0, number, 150, 2, 15, 6, 16),
		frame(0, 9, number, 150, 1, 17),
	}, event(number, 150,
		sample(0, 0, 1, 11), sample(0, 1, 3, 12), sample(0, 2, 1, 13), sample(0, 3, 2, 14),
		sample(1, 0, 2, 15), sample(1, 2, 0, 16), sample(2, 0, 1, 17))
}

func TestAWholeEvent(t *testing.T) {
	b := newBuilder(t, mixed(), 5, 3)
	frames, v := mixedFrames(7)
	for i, f := range frames {
		checkOpen(t, b, []int{7}[:min(i, 1)]...)
		checkOut(t, b)
		checkTake(t, b, f, i, api.OK)
	}
	checkOpen(t, b)
	checkOut(t, b, v)
	flush(t, b)
	checkOut(t, b)
}

func TestSamplesHaveRisingKeys(t *testing.T) {
	frames, v := mixedFrames(7)
	for i := range frames {
		b := newBuilder(t, mixed(), 5, 3)
		for j := range frames {
			checkTake(t, b, frames[(5*i-j+8)%4], 0, api.OK)
		}
		checkOut(t, b, v)
	}
}

// The conditions are those of the event's time, not of the builder's.
func TestTheEventsTimeCounts(t *testing.T) {
	b := newBuilder(t, mixed(), 5, 3)
	checkTake(t, b, frame(3, 2, 1, 99, 5, 1), 150, api.OK)
	checkOut(t, b, event(1, 99, sample(0, 1, 1, 1)))
	checkTake(t, b, frame(0, 9, 2, 200, 1, 9), 150, api.OK)
	checkTake(t, b, frame(3, 2, 2, 200), 150, api.OK)
	checkOut(t, b, event(2, 200, sample(2, 1, 1, 9)))
	checkTake(t, b, frame(0, 9, 3, 199, 1, 9), 150, api.OK)
	flush(t, b)
	checkOut(t, b, missing(event(3, 199, sample(2, 0, 1, 9)), chip(0, 30), chip(1, 0), chip(3, 2)))
}

func TestTheWindow(t *testing.T) {
	for _, window := range []int{0, 1, 10, 1 << 20} {
		b := newBuilder(t, mixed(), window, 9)
		checkTake(t, b, frame(3, 2, 4, 150), 100, api.OK)
		checkTick(t, b, 100+window, api.OK)
		checkOpen(t, b, 4)
		checkTick(t, b, 101+window, api.OK)
		checkOpen(t, b)
		checkOut(t, b, missing(event(4, 150), chip(0, 9), chip(0, 30), chip(1, 0)))
	}
}

// What counts is the time at which an event was opened, not that of its last frame.
func TestLaterFramesDoNotKeepAnEventOpen(t *testing.T) {
	b := newBuilder(t, mixed(), 10, 9)
	checkTake(t, b, frame(3, 2, 4, 150), 100, api.OK)
	checkTake(t, b, frame(3, 2, 3, 150), 105, api.OK)
	checkTake(t, b, frame(0, 30, 4, 150), 110, api.OK)
	checkTick(t, b, 111, api.OK)
	checkOpen(t, b, 3)
	checkTick(t, b, 115, api.OK)
	checkOpen(t, b, 3)
	checkTick(t, b, 116, api.OK)
	checkOpen(t, b)
	checkOut(t, b, missing(event(3, 150), chip(0, 9), chip(0, 30), chip(1, 0)), missing(event(4, 150), chip(0, 9), chip(1, 0)))
}

// Take ticks first: the event to which the frame belongs is closed before.
func TestTakeTicks(t *testing.T) {
	b := newBuilder(t, mixed(), 10, 9)
	checkTake(t, b, frame(3, 2, 4, 150), 0, api.OK)
	checkTake(t, b, frame(0, 30, 4, 150), 11, api.ErrState)
	checkCounts(t, b, 0, 1, 0, 0)
	checkOut(t, b, missing(event(4, 150), chip(0, 9), chip(0, 30), chip(1, 0)))
	checkTake(t, b, frame(3, 2, 5, 150), 20, api.OK)
	checkTake(t, b, frame(9, 9, 5, 150), 31, api.ErrNone)
	checkTick(t, b, 30, api.ErrRange)
	checkOpen(t, b)
}

func TestAsManyOpenEventsAsMayBe(t *testing.T) {
	b := newBuilder(t, mixed(), 1000, 2)
	checkTake(t, b, frame(3, 2, 9, 150), 0, api.OK)
	checkTake(t, b, frame(3, 2, 4, 150), 0, api.OK)
	checkOpen(t, b, 4, 9)
	checkTake(t, b, frame(0, 30, 9, 150), 0, api.OK)
	checkTake(t, b, frame(3, 2, 6, 150), 0, api.OK)
	checkOpen(t, b, 4, 6)
	checkOut(t, b, missing(event(9, 150), chip(0, 9), chip(1, 0)))
	checkTake(t, b, frame(3, 2, 1, 150), 3, api.OK)
	checkOpen(t, b, 1, 6)
	checkOut(t, b, missing(event(4, 150), chip(0, 9), chip(0, 30), chip(1, 0)))
	checkTake(t, b, frame(3, 2, 4, 150), 3, api.ErrState)
	checkTake(t, b, frame(3, 2, 6, 151), 3, api.ErrForm)
	checkTake(t, b, frame(9, 9, 8, 150), 3, api.ErrNone)
	checkOpen(t, b, 1, 6)
	checkOut(t, b)
}

// The first one is closed also if the new event is complete with its first frame.
func TestAnEventOfOneFrameNeedsRoom(t *testing.T) {
	b := newBuilder(t, mixed(), 1000, 1)
	checkTake(t, b, frame(3, 2, 9, 150), 0, api.OK)
	checkTake(t, b, frame(3, 2, 4, 99), 0, api.OK)
	checkOpen(t, b)
	checkOut(t, b, event(4, 99), missing(event(9, 150), chip(0, 9), chip(0, 30), chip(1, 0)))
}

// Events that were closed make room.
func TestClosedEventsMakeRoom(t *testing.T) {
	b := newBuilder(t, mixed(), 1000, 2)
	checkTake(t, b, frame(3, 2, 9, 150), 0, api.OK)
	frames, v := mixedFrames(7)
	for _, f := range frames {
		checkTake(t, b, f, 0, api.OK)
	}
	checkTake(t, b, frame(3, 2, 8, 150), 0, api.OK)
	checkOpen(t, b, 8, 9)
	checkOut(t, b, v)
}

func TestManyOpenEvents(t *testing.T) {
	b := newBuilder(t, mixed(), 1<<20, 256)
	for i := range 256 {
		checkTake(t, b, frame(3, 2, 1000-i, 150), i, api.OK)
	}
	l := b.Open()
	checkSame(t, "open", len(l), 256)
	checkSame(t, "rising", slices.IsSorted(l), true)
	checkTake(t, b, frame(3, 2, 1, 150), 300, api.OK)
	checkSame(t, "open", len(b.Open()), 256)
	checkOut(t, b, missing(event(1000, 150), chip(0, 9), chip(0, 30), chip(1, 0)))
}

func TestUnknown(t *testing.T) {
	b := newBuilder(t, mixed(), 10, 9)
	unknown := []api.Frame{
		frame(9, 9, 1, 150), frame(3, 3, 1, 150), frame(2, 2, 1, 150), // no chips
		frame(0, 30, 1, 99), frame(0, 30, 1, 200), frame(0, 9, 1, 300), frame(3, 2, 1, api.MaxTime), // not then
		frame(3, 2, 1, 150, 8, 1), frame(3, 2, 1, 150, 0, 1, 7, 1, 8, 1), frame(3, 2, 1, 150, 4095, 1), // no such address
		frame(0, 9, 1, 200, 2, 1), // an address of an earlier block
	}
	for i, f := range unknown {
		checkTake(t, b, f, i, api.ErrNone)
		checkCounts(t, b, i+1, 0, 0, 0)
		checkOpen(t, b)
	}
	checkTake(t, b, frame(3, 2, 1, 150, 0, 1, 7, 1), 20, api.OK)
	flush(t, b)
	checkOut(t, b, missing(event(1, 150, sample(0, 0, 0, 1), sample(0, 1, 3, 1)), chip(0, 9), chip(0, 30), chip(1, 0)))
	d := example()
	d.Cables = nil
	b = newBuilder(t, d, 10, 9)
	checkTake(t, b, frame(2, 5, 1, 150), 0, api.ErrNone)
	checkCounts(t, b, 1, 0, 0, 0)
}

func TestLate(t *testing.T) {
	b := newBuilder(t, mixed(), 10, 1)
	checkTake(t, b, frame(3, 2, 1, 150), 0, api.OK)
	flush(t, b)
	checkTake(t, b, frame(3, 2, 1, 150), 0, api.ErrState)
	checkTake(t, b, frame(0, 30, 1, 150), 0, api.ErrState)
	checkTake(t, b, frame(3, 2, 1, 99), 0, api.ErrState)
	b.Events()
	checkTake(t, b, frame(0, 30, 1, 150), 50, api.ErrState)
	checkTake(t, b, frame(3, 2, 2, 99), 50, api.OK)
	checkTake(t, b, frame(3, 2, 2, 99), 50, api.ErrState)
	checkTake(t, b, frame(3, 2, 3, 150), 50, api.OK)
	checkTake(t, b, frame(3, 2, 4, 150), 50, api.OK)
	checkTake(t, b, frame(0, 9, 3, 150), 50, api.ErrState)
	checkTake(t, b, frame(0, 9, 4, 150), 61, api.ErrState)
	checkTake(t, b, frame(3, 2, api.MaxEvent, 99), 61, api.OK)
	checkTake(t, b, frame(3, 2, api.MaxEvent, 99), 61, api.ErrState)
	checkCounts(t, b, 0, 8, 0, 0)
	checkOpen(t, b)
	checkOut(t, b, event(2, 99), missing(event(3, 150), chip(0, 9), chip(0, 30), chip(1, 0)), missing(event(4, 150), chip(0, 9), chip(0, 30), chip(1, 0)), event(api.MaxEvent, 99))
}

func TestStrayAndTwice(t *testing.T) {
	b := newBuilder(t, mixed(), 10, 3)
	checkTake(t, b, frame(3, 2, 1, 150, 0, 1), 0, api.OK)
	checkTake(t, b, frame(0, 30, 1, 151), 0, api.ErrForm)
	checkTake(t, b, frame(3, 2, 1, 99), 0, api.ErrForm)
	checkTake(t, b, frame(3, 2, 1, 149, 0, 1), 0, api.ErrForm)
	checkCounts(t, b, 0, 0, 3, 0)
	checkTake(t, b, frame(3, 2, 1, 150, 0, 1), 0, api.ErrThere)
	checkTake(t, b, frame(3, 2, 1, 150, 2, 5), 0, api.ErrThere)
	checkTake(t, b, frame(3, 2, 1, 150), 0, api.ErrThere)
	checkCounts(t, b, 0, 0, 3, 3)
	checkTake(t, b, frame(0, 9, 1, 150), 0, api.OK)
	checkTake(t, b, frame(0, 9, 1, 150, 1, 1), 0, api.ErrThere)
	checkTake(t, b, frame(3, 2, 2, 151), 0, api.OK)
	checkOpen(t, b, 1, 2)
	flush(t, b)
	checkOut(t, b, missing(event(1, 150, sample(0, 0, 0, 1)), chip(0, 30), chip(1, 0)), missing(event(2, 151), chip(0, 9), chip(0, 30), chip(1, 0)))
}

// Of several reasons the first one counts: unknown before late, late before stray, stray before twice.
func TestWhichReasonComesFirst(t *testing.T) {
	b := newBuilder(t, mixed(), 10, 3)
	checkTake(t, b, frame(3, 2, 1, 150), 0, api.OK)
	checkTake(t, b, frame(9, 9, 1, 150), 0, api.ErrNone)         // another chip of an open event
	checkTake(t, b, frame(9, 9, 1, 151), 0, api.ErrNone)         // and of another time
	checkTake(t, b, frame(0, 30, 1, 99), 0, api.ErrNone)         // a chip of the event's time, not of the frame's
	checkTake(t, b, frame(3, 2, 1, 150, 8, 1), 0, api.ErrNone)   // a chip that came, with another address
	checkTake(t, b, frame(3, 2, 1, 151), 0, api.ErrForm)         // a chip that came, of another time
	checkTake(t, b, frame(3, 2, 1, 150), 0, api.ErrThere)        // a chip that came
	checkTake(t, b, frame(0, 9, 1, 200, 2, 1), 0, api.ErrNone)   // an address of the event's time, not of the frame's
	checkTake(t, b, frame(0, 9, 1, 200, 1, 1), 11, api.ErrState) // closed by the tick
	checkTake(t, b, frame(9, 9, 1, 150), 11, api.ErrNone)
	checkTake(t, b, frame(3, 2, 1, 150, 8, 1), 11, api.ErrNone)
	checkTake(t, b, frame(3, 2, 1, 99), 11, api.ErrState)
	checkTake(t, b, frame(0, 30, 1, 99), 11, api.ErrNone)
	checkCounts(t, b, 8, 2, 1, 1)
}

func TestEventsThatNeverComeWhole(t *testing.T) {
	b := newBuilder(t, mixed(), 10, 3)
	frames, v := mixedFrames(7)
	for set := range 1 << len(frames) {
		number := 100 - set
		want := missing(event(number, 150))
		for i, f := range frames {
			if f.Event = number; set>>i&1 == 1 {
				checkTake(t, b, f, 0, api.OK)
			} else {
				want.Missing = append(want.Missing, chip(f.Link, f.Slot))
			}
		}
		if set == 0 {
			continue
		}
		for _, s := range v.Samples {
			by := []int{1: 2, 2: 3}[min(s.Cell.Plane, 2)]
			if s.Cell.Plane == 0 {
				by = s.Cell.Col / 2
			}
			if set>>by&1 == 1 {
				want.Samples = append(want.Samples, s)
			}
		}
		slices.SortFunc(want.Missing, func(a, b api.Chip) int { return a.Link*32 + a.Slot - b.Link*32 - b.Slot })
		flush(t, b)
		checkOut(t, b, want)
	}
}

func TestTheOutputIsOrdered(t *testing.T) {
	b := newBuilder(t, mixed(), 10, 9)
	for _, n := range []int{5, api.MaxEvent, 0, 3, 9} {
		checkTake(t, b, frame(3, 2, n, 99), 0, api.OK)
	}
	checkOut(t, b, event(0, 99), event(3, 99), event(5, 99), event(9, 99), event(api.MaxEvent, 99))
	checkTake(t, b, frame(3, 2, 4, 99), 0, api.OK)
	checkOut(t, b, event(4, 99))
}
