package readout_test

import (
	"math"
	"math/rand"
	"slices"
	"testing"

	"hodoscope/api"
	"hodoscope/detector"
	"hodoscope/readout"
)

// P5.4: Valid, Spread.

func checkInvalid(t *testing.T, what any, d api.Detector, v api.Event) {
	t.Helper()
	checkSame(t, what, readout.Valid(d, v), false)
	checkFails(t, what, api.ErrArg, results(readout.Spread(d, v))...)
}

func checkSpread(t *testing.T, what any, d api.Detector, v api.Event, want ...api.Frame) {
	t.Helper()
	checkSame(t, what, readout.Valid(d, v), true)
	checkFrames(t, what, mustSpread(t, d, v), want)
}

func TestSpread(t *testing.T) {
	d := example()
	checkSpread(t, "nothing", d, event(7, 150), frame(2, 5, 7, 150))
	checkSpread(t, "one", d, event(7, 150, sample(0, 2, 1, 9)), frame(2, 5, 7, 150, 3, 9))
	checkSpread(t, "all", d, event(7, 150, sample(0, 1, 0, 1), sample(0, 1, 1, 2), sample(0, 2, 0, 3), sample(0, 2, 1, 4), sample(0, 3, 0, 5), sample(0, 3, 1, 4095)),
		frame(2, 5, 7, 150, 0, 1, 1, 2, 2, 3, 3, 4, 4, 5, 5, 4095))
	checkSpread(t, "no chips before", d, event(7, 99))
	checkSpread(t, "the first time", d, event(0, 100, sample(0, 1, 0, 1)), frame(2, 5, 0, 100, 0, 1))
	checkSpread(t, "the last time", d, event(api.MaxEvent, 199, sample(0, 1, 0, 1)), frame(2, 5, api.MaxEvent, 199, 0, 1))
	checkSpread(t, "no chips after", d, event(7, 200))
	checkSpread(t, "the ends of the ranges", d, event(api.MaxEvent, api.MaxTime))
	checkSpread(t, "the beginnings of the ranges", d, event(0, 0))
}

// The chips are ordered by links, then slots, whatever the order of the cables and planes.
func TestSpreadOfManyChips(t *testing.T) {
	d := mixed()
	v := event(1, 100, sample(0, 0, 1, 1), sample(0, 1, 0, 2), sample(0, 2, 2, 3), sample(0, 3, 1, 4), sample(1, 2, 2, 5), sample(2, 0, 0, 6), sample(2, 1, 1, 7))
	checkSpread(t, "at 100", d, v,
		frame(0, 9, 1, 100, 0, 6, 3, 7), frame(0, 30, 1, 100, 1, 3, 2, 4), frame(1, 0, 1, 100, 8, 5), frame(3, 2, 1, 100, 1, 1, 4, 2))
	checkInvalid(t, "at 99", d, event(1, 99, v.Samples...))
	checkSpread(t, "at 99, what is connected", d, event(1, 99, v.Samples[:2]...), frame(3, 2, 1, 99, 1, 1, 4, 2))
	checkSpread(t, "at 200", d, event(1, 200, sample(0, 0, 0, 1), sample(2, 1, 1, 7)), frame(0, 9, 1, 200, 1, 7), frame(3, 2, 1, 200, 0, 1))
	checkInvalid(t, "at 200, a cell of the block before", d, event(1, 200, sample(2, 0, 0, 1)))
}

func TestValidDoesNotMindWhatIsMissing(t *testing.T) {
	v := event(7, 150, sample(0, 1, 0, 1))
	for _, l := range [][]api.Chip{nil, {}, {chip(2, 5)}, {chip(-1, 99), chip(3, 3), chip(-1, 99)}} {
		checkSpread(t, l, example(), missing(v, l...), frame(2, 5, 7, 150, 0, 1))
	}
}

func TestEventsThatAreNotValid(t *testing.T) {
	d, good := example(), sample(0, 2, 0, 1)
	for _, bad := range badDetectors() {
		checkInvalid(t, "the detector", bad, event(7, 150))
	}
	for _, n := range outside(0, api.MaxEvent) {
		checkInvalid(t, n, d, event(n, 150, good))
		checkInvalid(t, n, d, event(n, 150))
	}
	for _, n := range outside(0, api.MaxTime) {
		checkInvalid(t, n, d, event(7, n, good))
		checkInvalid(t, n, d, event(7, n))
	}
	for _, n := range append(outside(1, api.MaxAdc), 0) {
		checkInvalid(t, n, d, event(7, 150, sample(0, 2, 0, n)))
		checkInvalid(t, n, d, event(7, 150, good, sample(0, 2, 1, n)))
	}
	for _, c := range []api.Cell{
		cell(0, 0, 0), cell(0, 0, 1), cell(0, 4, 0), cell(0, 3, 2), cell(0, 2, -1), cell(0, -1, 0), cell(1, 1, 0), cell(-1, 1, 0), cell(64, 1, 0),
		cell(0, 2, 2), cell(0, 1, 1024), cell(0, 1024, 0), cell(math.MinInt, math.MinInt, math.MinInt), cell(math.MaxInt, math.MaxInt, math.MaxInt), cell(0, 1, math.MaxInt),
	} {
		checkInvalid(t, c, d, event(7, 150, api.Sample{Cell: c, Adc: 1}))
		checkInvalid(t, c, d, event(7, 150, good, api.Sample{Cell: c, Adc: 1}))
		checkInvalid(t, c, d, event(7, 150, api.Sample{Cell: c, Adc: 1}, good))
	}
	checkInvalid(t, "equal keys", d, event(7, 150, good, good))
	checkInvalid(t, "falling keys", d, event(7, 150, sample(0, 2, 1, 1), good))
	checkInvalid(t, "keys that fall later", d, event(7, 150, sample(0, 1, 0, 1), sample(0, 2, 1, 1), good))
	checkInvalid(t, "not connected before", d, event(7, 99, good))
	checkInvalid(t, "not connected after", d, event(7, 200, good))
	checkInvalid(t, "not connected at the end", mixed(), event(7, api.MaxTime, sample(0, 0, 0, 1)))
	checkInvalid(t, "planes that fall", mixed(), event(7, 150, sample(1, 0, 0, 1), sample(0, 0, 0, 1)))
}

// plainSpread makes the frames of an event with layer 3's functions for the whole detector.
func plainSpread(d api.Detector, v api.Event) []api.Frame {
	var l []api.Frame
	for _, c := range detector.Chips(d, v.Time) {
		f := frame(c.Link, c.Slot, v.Number, v.Time)
		for _, s := range v.Samples {
			if where, addr, e := detector.Where(d, v.Time, s.Cell); e == api.OK && where == c {
				f.L = append(f.L, api.Raw{Addr: addr, Adc: s.Adc})
			}
		}
		slices.SortFunc(f.L, func(a, b api.Raw) int { return a.Addr - b.Addr })
		l = append(l, f)
	}
	return l
}

func TestSpreadOfRandomEvents(t *testing.T) {
	r := rand.New(rand.NewSource(7))
	for range 400 {
		d := randomDetector(r)
		v := randomEvent(r, d, between(r, 0, 9), between(r, 0, 20))
		l := plainSpread(d, v)
		checkSpread(t, v, d, v, l...)
		for _, f := range l {
			checkSame(t, f, readout.Check(f), true)
		}
		// One more cell, in its place: the event is valid only if the cell is connected, and not there already.
		c := cellsOf(d)[r.Intn(len(cellsOf(d)))]
		more := event(v.Number, v.Time)
		for _, s := range append(slices.Clone(v.Samples), api.Sample{Cell: c, Adc: 1}) {
			more.Samples = append(more.Samples, s)
		}
		slices.SortStableFunc(more.Samples, func(a, b api.Sample) int { return keyOf(a.Cell) - keyOf(b.Cell) })
		_, _, e := detector.Where(d, v.Time, c)
		there := slices.ContainsFunc(v.Samples, func(s api.Sample) bool { return s.Cell == c })
		checkSame(t, more, readout.Valid(d, more), e == api.OK && !there)
	}
}

func keyOf(c api.Cell) int {
	key, _ := detector.Key(c)
	return key
}

// large is a detector with as many cables as may be, of 64 cells each.
func large() api.Detector {
	d := api.Detector{Name: "large"}
	for i := range 64 {
		d.Planes = append(d.Planes, api.Plane{Face: i % 6, Depth: 1 + i, Cols: 64, Rows: 8, HalfX: 1, HalfY: 1})
	}
	for i := range 512 {
		d.Cables = append(d.Cables, cable(i/32, i%32, i%64, i/64*8, 0, 8, 8, 0, 1000))
	}
	return d
}

// Each cell of a large detector is asked for in a time that does not grow with the detector.
func TestLargeEvents(t *testing.T) {
	d := large()
	v := event(3, 500)
	for _, c := range cellsOf(d) {
		v.Samples = append(v.Samples, api.Sample{Cell: c, Adc: 1 + (c.Plane+c.Col+c.Row)%4095})
	}
	checkSame(t, "Valid", readout.Valid(d, v), true)
	frames := mustSpread(t, d, v)
	checkSame(t, "frames", len(frames), 512)
	b, _ := readout.NewBuilder(d, 0, 1)
	for _, f := range frames {
		checkSame(t, "hits", len(f.L), 64)
		checkSame(t, "Take", b.Take(f, 0), api.OK)
	}
	checkEvents(t, "Events", b.Events(), v)
}

// A chip with as many cells as may be.
func TestLargeFrames(t *testing.T) {
	d := example()
	d.Planes[0].Cols, d.Planes[0].Rows = 70, 70
	d.Cables[0] = cable(2, 5, 0, 3, 4, 64, 64, 0, 1000)
	v := event(3, 500)
	for _, c := range cellsOf(d) {
		if c.Col >= 3 && c.Col < 67 && c.Row >= 4 && c.Row < 68 {
			v.Samples = append(v.Samples, api.Sample{Cell: c, Adc: 4095})
		}
	}
	frames := mustSpread(t, d, v)
	checkSame(t, "hits", len(frames[0].L), 4096)
	checkSame(t, "bytes", len(mustPack(t, frames[0])), api.MaxFrame)
	b, _ := readout.NewBuilder(d, 0, 1)
	checkSame(t, "Take", b.Take(frames[0], 0), api.OK)
	checkEvents(t, "Events", b.Events(), v)
}
