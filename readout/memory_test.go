package readout_test

import (
	"fmt"
	"slices"
	"testing"

	"hodoscope/api"
	"hodoscope/readout"
)

// R3, R4 and P0.1: what holds for all functions.

// checkNoLinkMethods checks what the methods of something return that is no link.
func checkNoLinkMethods(t *testing.T, l *readout.Link) {
	t.Helper()
	checkSame(t, "Offer", l.Offer("a"), api.ErrNil)
	checkSame(t, "Offer of a long string", l.Offer(string(make([]byte, 20000))), api.ErrNil)
	checkSame(t, "Send", l.Send([]int{1}), false)
	checkNothing(t, "Take", results(l.Take())...)
	checkNothing(t, "Waiting", results(l.Waiting())...)
}

// checkNoBuilderMethods checks what the methods of something return that is no builder.
func checkNoBuilderMethods(t *testing.T, b *readout.Builder) {
	t.Helper()
	checkSame(t, "Take", b.Take(frame(3, 2, 9, 99), 0), api.ErrNil)
	checkSame(t, "Take of no frame", b.Take(frame(-1, 2, 1, 99), -1), api.ErrNil)
	checkSame(t, "Tick", b.Tick(1000), api.ErrNil)
	checkSame(t, "Tick at no time", b.Tick(-1), api.ErrNil)
	checkSame(t, "Flush", b.Flush(), api.ErrNil)
	checkNothing(t, "Events and more", b.Events(), b.Open(), b.Counts())
}

func TestWhatIsNoObject(t *testing.T) {
	checkNoLinkMethods(t, nil)
	checkNoLinkMethods(t, &readout.Link{})
	checkNoBuilderMethods(t, nil)
	checkNoBuilderMethods(t, &readout.Builder{})
}

// A copy is no object that a function returned; using it leaves the object as it is.
func TestACopyIsNoObject(t *testing.T) {
	l := newLink(t, 2, 2)
	offer(t, l, "a", api.OK)
	offer(t, l, "b", api.OK)
	l.Send(nil)
	twin := *l
	checkNoLinkMethods(t, &twin)
	checkWaiting(t, l, 1, 1, 1)
	b := newBuilder(t, mixed(), 5, 5)
	checkTake(t, b, frame(3, 2, 1, 150), 0, api.OK)
	checkTake(t, b, frame(3, 2, 2, 99), 0, api.OK)
	checkTake(t, b, frame(3, 3, 2, 99), 0, api.ErrNone)
	other := *b
	checkNoBuilderMethods(t, &other)
	checkOpen(t, b, 1)
	checkCounts(t, b, 1, 0, 0, 0)
	checkOut(t, b, event(2, 99))
}

// roomyInts returns a list with memory beyond its end; so do the others.
func roomyInts(l ...int) []int { return append(slices.Clone(l), -77, -78)[:len(l)] }

func roomyHits(numbers ...int) []api.Raw {
	return append(hits(numbers...), hits(-77, -77, -78, -78)...)[:len(numbers)/2]
}

func roomyDetector() api.Detector {
	d := mixed()
	d.Planes = append(d.Planes, api.Plane{Cols: -77})[:len(d.Planes)]
	d.Field = append(d.Field, api.Slab{Face: 1, From: 1, To: 5, B: 6}, api.Slab{B: -77})[:1]
	d.Cables = append(d.Cables, api.Cable{Link: -77})[:len(d.Cables)]
	return d
}

func roomyEvent() api.Event {
	_, v := mixedFrames(7)
	v.Samples = append(v.Samples, sample(-77, 0, 0, 0))[:len(v.Samples)]
	v.Missing = append(v.Missing, chip(1, 1), chip(-77, 0))[:1]
	return v
}

// spoil overwrites the memory of results or arguments, also that beyond their ends.
func spoil(l ...any) {
	for _, x := range l {
		switch x := x.(type) {
		case []int:
			fill(x, -79)
		case []api.Raw:
			fill(x, api.Raw{Addr: -79, Adc: -79})
		case []api.Chip:
			fill(x, chip(-79, -79))
		case []api.Sample:
			fill(x, sample(-79, -79, -79, -79))
		case api.Frame:
			spoil(x.L)
		case api.Event:
			spoil(x.Samples, x.Missing)
		case []api.Frame:
			for _, f := range x {
				spoil(f)
			}
			fill(x, api.Frame{Link: -79})
		case []api.Event:
			for _, v := range x {
				spoil(v)
			}
			fill(x, api.Event{Number: -79})
		case api.Detector:
			fill(x.Planes, api.Plane{Cols: -79})
			fill(x.Field, api.Slab{B: -79})
			fill(x.Cables, api.Cable{Link: -79})
		}
	}
}

func fill[T any](l []T, x T) {
	for i := range l[:cap(l)] {
		l[:cap(l)][i] = x
	}
}

// full is what lists have, also beyond their ends.
func full(l ...any) string {
	s := ""
	for _, x := range l {
		switch x := x.(type) {
		case []int:
			s += fmt.Sprint(x[:cap(x)], len(x))
		case api.Frame:
			s += fmt.Sprint(x, x.L[:cap(x.L)])
		case api.Event:
			s += fmt.Sprint(x, x.Samples[:cap(x.Samples)], x.Missing[:cap(x.Missing)])
		case api.Detector:
			s += fmt.Sprint(x, x.Planes[:cap(x.Planes)], x.Field[:cap(x.Field)], x.Cables[:cap(x.Cables)])
		}
	}
	return s
}

// call is a call of a function, with the arguments that have memory.
type call struct {
	name      string
	arguments []any
	do        func() []any
}

func calls() []call {
	adc, dead, other := roomyInts(3, 9, 20, 7), roomyInts(2, 8, -1), roomyInts(5, 4094, 0)
	f, d, v := frame(2, 5, 7, 150), roomyDetector(), roomyEvent()
	f.L = roomyHits(1, 2, 3, 4, 5, 6)
	g := frame(2, 6, 8, 151)
	g.L = roomyHits(0, 9)
	s, _ := readout.Pack(f)
	s2, _ := readout.Pack(g)
	return []call{
		{"Suppress", []any{adc, dead}, func() []any { return results(readout.Suppress(adc, 2, 0, dead)) }},
		{"Pile", []any{adc, other}, func() []any { return results(readout.Pile(adc, other)) }},
		{"Pile with nothing", []any{adc}, func() []any { return results(readout.Pile(adc, nil)) }},
		{"Pile of itself", []any{adc}, func() []any { return results(readout.Pile(adc, adc)) }},
		{"Check", []any{f}, func() []any { return results(readout.Check(f)) }},
		{"Pack", []any{f}, func() []any { return results(readout.Pack(f)) }},
		{"Unpack", nil, func() []any { return results(readout.Unpack(s)) }},
		{"Scan", nil, func() []any { return results(readout.Scan("x" + s + s2 + s)) }},
		{"Valid", []any{d, v}, func() []any { return results(readout.Valid(d, v)) }},
		{"Spread", []any{d, v}, func() []any { return results(readout.Spread(d, v)) }},
	}
}

func TestArgumentsAreOnlyReadAndResultsAreNew(t *testing.T) {
	for _, c := range calls() {
		before := full(c.arguments...)
		got := c.do()
		text := fmt.Sprint(got...)
		again := c.do()
		checkSame(t, c.name+": the arguments", full(c.arguments...), before)
		spoil(got...)
		checkSame(t, c.name+": an earlier call", fmt.Sprint(again...), text)
		checkSame(t, c.name+": the arguments", full(c.arguments...), before)
		checkSame(t, c.name+": a later call", fmt.Sprint(c.do()...), text)
		spoil(c.arguments...)
		checkSame(t, c.name+": without its arguments", fmt.Sprint(again...), text)
	}
}

// The lists of one result share no memory.
func TestListsOfAResultAreApart(t *testing.T) {
	_, v := mixedFrames(7)
	frames := mustSpread(t, mixed(), v)
	s := ""
	for _, f := range frames {
		s += mustPack(t, f)
	}
	scanned, _ := readout.Scan(s)
	b := newBuilder(t, mixed(), 5, 5)
	for _, n := range []int{1, 2, 3} {
		checkTake(t, b, frame(3, 2, n, 150, 0, 1, 1, 1), 0, api.OK)
		checkTake(t, b, frame(0, 9, n, 150, 0, 1, 1, 1), 0, api.OK)
	}
	flush(t, b)
	events := b.Events()
	for _, l := range [][]api.Frame{frames, scanned} {
		want := fmt.Sprint(l[1:])
		spoil(l[0].L)
		_ = append(l[0].L, hits(9, 9, 9, 9)...)
		checkSame(t, "the other frames", fmt.Sprint(l[1:]), want)
	}
	want := fmt.Sprint(events[1:])
	missing := fmt.Sprint(events[0].Missing)
	spoil(events[0].Samples)
	_ = append(events[0].Samples, sample(9, 9, 9, 9))
	checkSame(t, "what is missing", fmt.Sprint(events[0].Missing), missing)
	spoil(events[0].Missing)
	checkSame(t, "the other events", fmt.Sprint(events[1:]), want)
}

// Changes of what was given to a builder, and of what it returned, do not change it.
func TestBuildersKeepNoMemory(t *testing.T) {
	frames, v := mixedFrames(7)
	d := roomyDetector()
	before := full(d)
	b := newBuilder(t, d, 5, 5)
	checkSame(t, "the detector", full(d), before)
	spoil(d)
	for i, f := range frames {
		f.L = append(slices.Clone(f.L), hits(-77, -77, -78, -78)...)[:len(f.L)]
		text := full(f)
		checkTake(t, b, f, 0, api.OK)
		checkSame(t, "the frame", full(f), text)
		spoil(f)
		spoil(b.Open())
		checkOpen(t, b, []int{7}[:min(1, 3-i)]...)
	}
	l := b.Events()
	text := fmt.Sprint(l)
	for _, n := range []int{1, 2, 9} {
		checkTake(t, b, frame(3, 2, n, 99, 2, 5), 0, api.OK)
	}
	checkSame(t, "events that came out", fmt.Sprint(l), text)
	checkEvents(t, "events that came out", l, v)
	spoil(l)
	checkOut(t, b, event(1, 99, sample(0, 0, 2, 5)), event(2, 99, sample(0, 0, 2, 5)), event(9, 99, sample(0, 0, 2, 5)))
	checkTake(t, b, frame(0, 30, 8, 150, 3, 4), 0, api.OK)
	flush(t, b)
	checkOut(t, b, missing(event(8, 150, sample(0, 3, 2, 4)), chip(0, 9), chip(1, 0), chip(3, 2)))
}

// A builder's events do not share what is missing: the chips are the same for all events of a time.
func TestMissingChipsAreNew(t *testing.T) {
	b := newBuilder(t, mixed(), 5, 5)
	for _, n := range []int{1, 2} {
		checkTake(t, b, frame(3, 2, n, 150), 0, api.OK)
		flush(t, b)
		l := b.Events()
		checkEvents(t, "Events", l, missing(event(n, 150), chip(0, 9), chip(0, 30), chip(1, 0)))
		spoil(l)
	}
}

func TestLinksKeepNoMemory(t *testing.T) {
	l := newLink(t, 2, 2)
	flips := roomyInts(7, 0, 0)
	text := full(flips)
	offer(t, l, "ab", api.OK)
	checkSame(t, "Send", l.Send(flips), true)
	checkSame(t, "flips", full(flips), text)
	spoil(flips)
	take(t, l, "\x60b")
}

func TestEmptyListsAreNil(t *testing.T) {
	x, _ := readout.Suppress([]int{}, 0, 0, []int{})
	y, _ := readout.Pile([]int{}, nil)
	checkNothing(t, "lists", x, y)
	f := frame(3, 2, 7, 99)
	f.L = []api.Raw{}
	checkSame(t, "Check", readout.Check(f), true)
	checkSame(t, "Pack", mustPack(t, f), mustPack(t, frame(3, 2, 7, 99)))
	d, v := mixed(), event(7, 99)
	d.Field, v.Samples, v.Missing = []api.Slab{}, []api.Sample{}, []api.Chip{}
	checkSpread(t, "Spread", d, v, frame(3, 2, 7, 99))
	b := newBuilder(t, d, 5, 5)
	checkTake(t, b, f, 0, api.OK)
	checkTake(t, b, f, 0, api.ErrState)
	checkOut(t, b, event(7, 99))
	d.Cables = []api.Cable{}
	checkSpread(t, "no cables", d, v)
}

// A frame without hits has come, too.
func TestAnEmptyFrameCounts(t *testing.T) {
	b := newBuilder(t, mixed(), 5, 5)
	f := frame(0, 9, 7, 150)
	checkTake(t, b, f, 0, api.OK)
	checkTake(t, b, f, 0, api.ErrThere)
	flush(t, b)
	checkOut(t, b, missing(event(7, 150), chip(0, 30), chip(1, 0), chip(3, 2)))
}

// oddText is what all functions and a sequence of calls return for odd numbers.
func oddText(t *testing.T) string {
	text := ""
	d := mixed()
	b, l := newBuilder(t, d, 5, 5), newLink(t, 5, 5)
	add := func(l ...any) { text += fmt.Sprintln(l...) }
	for _, n := range odd() {
		add(results(readout.Suppress([]int{n, 3}, 0, 0, []int{n}))...)
		add(results(readout.Suppress([]int{1, 3}, n, n, []int{n}))...)
		add(results(readout.Pile([]int{n}, []int{1, n}))...)
		for _, f := range []api.Frame{frame(n, n, n, n, n, n), frame(3, 2, n, 150, 1, 1), frame(3, 2, 1, n, 2, n), frame(3, 2, 1, 150, n, 1)} {
			add(readout.Check(f), b.Take(f, n), b.Take(f, 0))
			s, e := readout.Pack(f)
			add(s, e)
		}
		for _, v := range []api.Event{event(n, n, sample(n, n, n, n)), event(1, n, sample(0, 1, 1, n)), event(1, 150, sample(0, n, n, 1))} {
			add(readout.Valid(d, v))
			add(results(readout.Spread(d, v))...)
		}
		_, e := readout.NewBuilder(d, n, n)
		_, g := readout.NewLink(n, n)
		add(e, g, b.Tick(n), l.Offer("abc"), l.Send([]int{n, n, n}))
		add(results(l.Take())...)
		add(b.Open(), b.Counts(), b.Events())
	}
	return text
}

// Each call with odd numbers returns, and returns the same when it is made again.
func TestOddNumbers(t *testing.T) {
	checkSame(t, "the second time", oddText(t), oddText(t))
}
