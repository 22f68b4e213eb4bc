package readout_test

import (
	"fmt"
	"maps"
	"math/rand"
	"slices"
	"testing"

	"hodoscope/api"
	"hodoscope/detector"
	"hodoscope/readout"
)

// P5.6 to P5.8, P5.11 and P5.12: random frames, and a builder that keeps everything in the plainest way, and asks layer 3
// of the whole detector.

type plainEvent struct {
	time, opened, order int
	frames              map[api.Chip]api.Frame
}

type plainBuilder struct {
	d                 api.Detector
	window, most, now int
	order             int
	open              map[int]plainEvent
	closed            map[int]bool
	output            map[int]api.Event
	counts            map[api.Errno]int
}

func newPlain(d api.Detector, window, most int) *plainBuilder {
	return &plainBuilder{d: d, window: window, most: most, open: map[int]plainEvent{}, closed: map[int]bool{}, output: map[int]api.Event{}, counts: map[api.Errno]int{}}
}

func (b *plainBuilder) close(number int) {
	p := b.open[number]
	v := event(number, p.time)
	for _, c := range detector.Chips(b.d, p.time) {
		f, there := p.frames[c]
		if !there {
			v.Missing = append(v.Missing, c)
		}
		for _, h := range f.L {
			where, _ := detector.Resolve(b.d, p.time, c, h.Addr)
			v.Samples = append(v.Samples, api.Sample{Cell: where, Adc: h.Adc})
		}
	}
	slices.SortFunc(v.Samples, func(a, b api.Sample) int { return keyOf(a.Cell) - keyOf(b.Cell) })
	b.output[number] = v
	b.closed[number] = true
	delete(b.open, number)
}

func (b *plainBuilder) tick(now int) api.Errno {
	if now < b.now {
		return api.ErrRange
	}
	b.now = now
	for _, number := range b.opened() {
		if now-b.open[number].opened > b.window {
			b.close(number)
		}
	}
	return api.OK
}

// opened returns the numbers of the open events, rising.
func (b *plainBuilder) opened() []int { return slices.Sorted(maps.Keys(b.open)) }

func (b *plainBuilder) flush() {
	for _, number := range b.opened() {
		b.close(number)
	}
}

func (b *plainBuilder) reason(f api.Frame) api.Errno {
	c := chip(f.Link, f.Slot)
	if !slices.Contains(detector.Chips(b.d, f.Time), c) {
		return api.ErrNone
	}
	for _, h := range f.L {
		if _, e := detector.Resolve(b.d, f.Time, c, h.Addr); e != api.OK {
			return api.ErrNone
		}
	}
	if b.closed[f.Event] {
		return api.ErrState
	}
	p, there := b.open[f.Event]
	if there && p.time != f.Time {
		return api.ErrForm
	}
	if _, came := p.frames[c]; came {
		return api.ErrThere
	}
	return api.OK
}

func (b *plainBuilder) take(f api.Frame, now int) api.Errno {
	if e := b.tick(now); e != api.OK {
		return e
	}
	if e := b.reason(f); e != api.OK {
		b.counts[e]++
		return e
	}
	p, there := b.open[f.Event]
	if !there {
		if len(b.open) == b.most {
			b.close(slices.MinFunc(b.opened(), func(x, y int) int { return b.open[x].order - b.open[y].order }))
		}
		b.order++
		p = plainEvent{f.Time, now, b.order, map[api.Chip]api.Frame{}}
		b.open[f.Event] = p
	}
	p.frames[chip(f.Link, f.Slot)] = f
	if len(p.frames) == len(detector.Chips(b.d, f.Time)) {
		b.close(f.Event)
	}
	return api.OK
}

// out returns the events in the output, and empties it.
func (b *plainBuilder) out() []api.Event {
	var l []api.Event
	for _, number := range slices.Sorted(maps.Keys(b.output)) {
		l = append(l, b.output[number])
	}
	clear(b.output)
	return l
}

func (b *plainBuilder) tally() api.Counts {
	return api.Counts{Unknown: b.counts[api.ErrNone], Late: b.counts[api.ErrState], Stray: b.counts[api.ErrForm], Twice: b.counts[api.ErrThere]}
}

// taken checks P5.12: the chips that came and those that are missing are together those of the event, and no event comes
// out twice.
type taken struct {
	d    api.Detector
	came map[int][]api.Chip
	out  map[int]bool
}

func (k *taken) check(t *testing.T, l []api.Event) {
	t.Helper()
	for _, v := range l {
		checkSame(t, fmt.Sprint("event ", v.Number, " twice"), k.out[v.Number], false)
		k.out[v.Number] = true
		chips := slices.Concat(k.came[v.Number], v.Missing)
		slices.SortFunc(chips, func(a, b api.Chip) int { return a.Link*32 + a.Slot - b.Link*32 - b.Slot })
		if !slices.Equal(chips, detector.Chips(k.d, v.Time)) {
			t.Errorf("event %d: chips %v, want %v", v.Number, chips, detector.Chips(k.d, v.Time))
		}
		checkSame(t, "Valid", readout.Valid(k.d, v), true)
	}
}

// likelyFrame returns a frame of an event about a number that may be one of the detector's at a time, and may be not.
func likelyFrame(r *rand.Rand, d api.Detector, about int) api.Frame {
	f := frame(between(r, 0, 2), between(r, 0, 2), about+between(r, 0, 3), between(r, 0, 20))
	if !chance(r, 6) {
		f.Time = f.Event%3*4 + 5
	}
	if chips := detector.Chips(d, f.Time); len(chips) > 0 && !chance(r, 8) {
		c := chips[r.Intn(len(chips))]
		f.Link, f.Slot = c.Link, c.Slot
	}
	for addr := between(r, 0, 2); addr < 30; addr += between(r, 1, 5) {
		_, e := detector.Resolve(d, f.Time, chip(f.Link, f.Slot), addr)
		if e == api.OK || chance(r, 60) {
			f.L = append(f.L, api.Raw{Addr: addr, Adc: between(r, 1, api.MaxAdc)})
		}
	}
	return f
}

func TestBuildersAgainstAPlainOne(t *testing.T) {
	r := rand.New(rand.NewSource(9))
	met := map[api.Errno]int{}
	for range 400 {
		d := randomDetector(r)
		window, most, now := between(r, 0, 40), between(r, 1, 5), 0
		b, p := newBuilder(t, d, window, most), newPlain(d, window, most)
		k := &taken{d, map[int][]api.Chip{}, map[int]bool{}}
		for i := range 60 {
			now = max(0, now+[]int{-1, 0, 0, 0, 0, 1, 1, 2, 3}[r.Intn(9)])
			switch between(r, 0, 30) {
			case 0:
				flush(t, b)
				p.flush()
			case 1:
				checkTick(t, b, now, p.tick(now))
			case 2:
				l := b.Events()
				checkEvents(t, "Events", l, p.out()...)
				k.check(t, l)
			default:
				f := likelyFrame(r, d, i/6)
				e := p.take(f, now)
				checkTake(t, b, f, now, e)
				met[e]++
				if e == api.OK {
					k.came[f.Event] = append(k.came[f.Event], chip(f.Link, f.Slot))
				}
			}
			now = max(now, p.now)
			checkOpen(t, b, p.opened()...)
			checkSame(t, "Counts", b.Counts(), p.tally())
		}
		flush(t, b)
		p.flush()
		l := b.Events()
		checkEvents(t, "Events at the end", l, p.out()...)
		k.check(t, l)
	}
	for _, e := range []api.Errno{api.OK, api.ErrNone, api.ErrState, api.ErrForm, api.ErrThere, api.ErrRange} {
		if met[e] < 100 {
			t.Errorf("error %d was met %d times", e, met[e])
		}
	}
}

// P5.11: the frames of some events in any order.
func TestAnyOrder(t *testing.T) {
	r := rand.New(rand.NewSource(10))
	for range 300 {
		d := randomDetector(r)
		window, n := between(r, 0, 9), between(r, 1, 8)
		var frames []api.Frame
		var want []api.Event
		for number := range n {
			v := randomEvent(r, d, number*number, between(r, 0, 20))
			if len(detector.Chips(d, v.Time)) > 0 {
				want = append(want, v)
				frames = append(frames, mustSpread(t, d, missing(v, chip(1, 1)))...)
			}
		}
		b := newBuilder(t, d, window, max(1, len(want)))
		first := between(r, 0, 1000)
		now := first
		for _, f := range shuffled(r, frames) {
			now = between(r, now, first+window)
			checkTake(t, b, f, now, api.OK)
		}
		checkOpen(t, b)
		checkOut(t, b, want...)
		checkCounts(t, b, 0, 0, 0, 0)
	}
}

// P0.3: the frames of events come over a link that inverts bits. What is broken is refused, and its chip is missing.
func TestALinkThatInvertsBits(t *testing.T) {
	r := rand.New(rand.NewSource(11))
	d := mixed()
	l, b := newLink(t, 4, 3), newBuilder(t, d, 1000, 256)
	want := map[int]api.Event{}
	for number := range 200 {
		v := randomEvent(r, d, number, 150)
		came := 0
		want[number] = v
		for _, f := range mustSpread(t, d, v) {
			s := mustPack(t, f)
			offer(t, l, s, api.OK)
			var flips []int
			if from := r.Intn(8*len(s) - 15); chance(r, 4) {
				flips = []int{from, from + between(r, 1, 15)}
			}
			l.Send(flips)
			got, _ := l.Take()
			g, _, e := readout.Unpack(got)
			checkSame(t, flips, e == api.OK, flips == nil)
			if e != api.OK {
				lost := want[number]
				lost.Missing = append(lost.Missing, chip(f.Link, f.Slot))
				lost.Samples = without(d, lost, chip(f.Link, f.Slot))
				want[number] = lost
				continue
			}
			came++
			checkTake(t, b, g, number, api.OK)
		}
		if came == 0 {
			delete(want, number)
		}
	}
	flush(t, b)
	var events []api.Event
	for _, number := range slices.Sorted(maps.Keys(want)) {
		events = append(events, want[number])
	}
	checkOut(t, b, events...)
}

// without returns the samples of an event that a chip does not read.
func without(d api.Detector, v api.Event, c api.Chip) []api.Sample {
	var l []api.Sample
	for _, s := range v.Samples {
		if where, _, _ := detector.Where(d, v.Time, s.Cell); where != c {
			l = append(l, s)
		}
	}
	return l
}
