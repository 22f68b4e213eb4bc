package readout

import (
	"cmp"
	"slices"
	"strings"

	"hodoscope/api"
	"hodoscope/detector"
)

// openEvent is an event of which frames are still expected.
type openEvent struct {
	number, time int
	opened       int
	wires        []wire
	came         map[api.Chip][]api.Sample
}

func (o *openEvent) complete() bool {
	return len(o.came) == len(o.wires)
}

// event returns what has been made of the frames that came.
func (o *openEvent) event() api.Event {
	v := api.Event{Number: o.number, Time: o.time}
	for _, w := range o.wires {
		samples, there := o.came[w.chip]
		if !there {
			v.Missing = append(v.Missing, w.chip)
		}
		v.Samples = append(v.Samples, samples...)
	}
	slices.SortFunc(v.Samples, func(a, b api.Sample) int { return cmp.Compare(keyOf(a), keyOf(b)) })
	return v
}

func keyOf(s api.Sample) int {
	key, _ := detector.Key(s.Cell)
	return key
}

// Builder is an event builder.
type Builder struct {
	// self is the builder's own address, which tells it from a builder that NewBuilder did not make, and from a copy.
	self         *Builder
	detector     api.Detector
	window, most int
	now          int
	open         queue[*openEvent] // the first opened one first
	closed       map[int]bool
	output       queue[api.Event]
	counts       api.Counts
}

// NewBuilder returns a builder without events.
func NewBuilder(d api.Detector, window, most int) (*Builder, api.Errno) {
	if !isDetector(d) || !within(window, 0, api.MaxWindow) || !within(most, 1, api.MaxOpen) {
		return nil, api.ErrArg
	}
	own := api.Detector{
		Name:   strings.Clone(d.Name),
		Planes: slices.Clone(d.Planes),
		Field:  slices.Clone(d.Field),
		Cables: slices.Clone(d.Cables),
	}
	b := &Builder{detector: own, window: window, most: most, closed: map[int]bool{}}
	b.self = b
	return b, api.OK
}

// made reports whether NewBuilder returned the builder.
func (b *Builder) made() bool {
	return b != nil && b.self == b
}

// close puts events that are not open any more into the output.
func (b *Builder) close(events ...*openEvent) {
	for _, o := range events {
		b.closed[o.number] = true
		b.output.put(o.event())
	}
}

// Tick makes now the builder's time, and closes the events that were opened too long before it.
func (b *Builder) Tick(now int) api.Errno {
	switch {
	case !b.made():
		return api.ErrNil
	case !isTime(now):
		return api.ErrArg
	case now < b.now:
		return api.ErrRange
	}
	b.now = now
	b.close(b.open.remove(func(o *openEvent) bool { return now-o.opened > b.window })...)
	return api.OK
}

// Flush closes all open events.
func (b *Builder) Flush() api.Errno {
	if !b.made() {
		return api.ErrNil
	}
	b.close(b.open.remove(func(*openEvent) bool { return true })...)
	return api.OK
}

// find returns the open event with a number; nil if there is none.
func (b *Builder) find(number int) *openEvent {
	for o := range b.open.all() {
		if o.number == number {
			return o
		}
	}
	return nil
}

// begin opens the event of a frame.
func (b *Builder) begin(f api.Frame, wires []wire) *openEvent {
	if b.open.size() == b.most {
		b.close(b.open.take())
	}
	o := &openEvent{number: f.Event, time: f.Time, opened: b.now, wires: wires, came: map[api.Chip][]api.Sample{}}
	b.open.put(o)
	return o
}

// wiresOf returns the wires at the time of a frame; o is the open event with its number, if there is one.
func (b *Builder) wiresOf(f api.Frame, o *openEvent) []wire {
	if o != nil && o.time == f.Time {
		return o.wires
	}
	return wiresAt(b.detector, f.Time)
}

// samplesOf returns what a frame has measured; false if the chip, or the address of a hit, is not there.
func samplesOf(f api.Frame, wires []wire) ([]api.Sample, bool) {
	i := slices.IndexFunc(wires, func(w wire) bool { return w.chip == chipOf(f) })
	if i < 0 {
		return nil, false
	}
	return wires[i].samples(f.L)
}

// Take takes a frame.
func (b *Builder) Take(f api.Frame, now int) api.Errno {
	switch {
	case !b.made():
		return api.ErrNil
	case !Check(f):
		return api.ErrArg
	}
	if e := b.Tick(now); e != api.OK {
		return e
	}
	o := b.find(f.Event)
	wires := b.wiresOf(f, o)
	samples, known := samplesOf(f, wires)
	if e := b.refuse(f, o, known); e != api.OK {
		return e
	}
	if o == nil {
		o = b.begin(f, wires)
	}
	o.came[chipOf(f)] = samples
	b.close(b.open.remove((*openEvent).complete)...)
	return api.OK
}

// refuse returns why a frame is not taken, and counts it; o is the open event with its number, if there is one.
func (b *Builder) refuse(f api.Frame, o *openEvent, known bool) api.Errno {
	switch {
	case !known:
		b.counts.Unknown++
		return api.ErrNone
	case b.closed[f.Event]:
		b.counts.Late++
		return api.ErrState
	case o == nil:
		return api.OK
	case o.time != f.Time:
		b.counts.Stray++
		return api.ErrForm
	}
	if _, there := o.came[chipOf(f)]; there {
		b.counts.Twice++
		return api.ErrThere
	}
	return api.OK
}

// Events returns what is in the output, by rising numbers, and empties it.
func (b *Builder) Events() []api.Event {
	if !b.made() {
		return nil
	}
	l := slices.Collect(b.output.all())
	slices.SortFunc(l, func(x, y api.Event) int { return cmp.Compare(x.Number, y.Number) })
	b.output = queue[api.Event]{}
	return l
}

// Open returns the numbers of the open events, rising.
func (b *Builder) Open() []int {
	if !b.made() {
		return nil
	}
	var l []int
	for o := range b.open.all() {
		l = append(l, o.number)
	}
	slices.Sort(l)
	return l
}

// Counts returns how many frames were not taken, by reasons.
func (b *Builder) Counts() api.Counts {
	if !b.made() {
		return api.Counts{}
	}
	return b.counts
}
