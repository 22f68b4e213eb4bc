package readout_test

import (
	"math"
	"math/rand"
	"reflect"
	"slices"
	"testing"

	"hodoscope/api"
	"hodoscope/detector"
	"hodoscope/readout"
)

// hits makes a list of addresses and measurements.
func hits(numbers ...int) []api.Raw {
	var l []api.Raw
	for i := 0; i < len(numbers); i += 2 {
		l = append(l, api.Raw{Addr: numbers[i], Adc: numbers[i+1]})
	}
	return l
}

// manyHits makes a valid list of n hits.
func manyHits(n int) []api.Raw {
	var l []api.Raw
	for i := range n {
		l = append(l, api.Raw{Addr: i, Adc: 1 + i*7%4095})
	}
	return l
}

func frame(link, slot, event, time int, numbers ...int) api.Frame {
	return api.Frame{Link: link, Slot: slot, Event: event, Time: time, L: hits(numbers...)}
}

func cable(link, slot, plane, col, row, wide, high, from, to int) api.Cable {
	return api.Cable{Link: link, Slot: slot, Plane: plane, Col: col, Row: row, Wide: wide, High: high, From: from, To: to}
}

func cell(plane, col, row int) api.Cell { return api.Cell{Plane: plane, Col: col, Row: row} }

func chip(link, slot int) api.Chip { return api.Chip{Link: link, Slot: slot} }

func sample(plane, col, row, adc int) api.Sample {
	return api.Sample{Cell: cell(plane, col, row), Adc: adc}
}

func event(number, time int, samples ...api.Sample) api.Event {
	return api.Event{Number: number, Time: time, Samples: samples}
}

// missing returns the event with chips that are missing.
func missing(v api.Event, chips ...api.Chip) api.Event {
	v.Missing = chips
	return v
}

// example is the detector of layer 3's examples: the chip 2 5 reads six cells from 100 to below 200.
func example() api.Detector {
	return api.Detector{
		Name:   "example",
		Planes: []api.Plane{{Face: 0, Depth: 100, Cols: 4, Rows: 2, HalfX: 5, HalfY: 7, Thick: 1}},
		Field:  []api.Slab{{Face: 0, From: 10, To: 20, B: 3}},
		Cables: []api.Cable{cable(2, 5, 0, 1, 0, 3, 2, 100, 200)},
	}
}

// mixed has chips on several planes that do not have the order of their links and slots, and that change at 100 and 200.
// From 100 to below 200 these are 0 9, 0 30, 1 0 and 3 2, before only 3 2, then 0 9 (of another block) and 3 2.
func mixed() api.Detector {
	return api.Detector{
		Name: "mixed",
		Planes: []api.Plane{
			{Face: 0, Depth: 100, Cols: 4, Rows: 4, HalfX: 5, HalfY: 7},
			{Face: 6, Cols: 3, Rows: 3, HalfX: 9, HalfY: 9},
			{Face: 0, Depth: 50, Cols: 2, Rows: 2, HalfX: 5, HalfY: 7},
		},
		Cables: []api.Cable{
			cable(3, 2, 0, 0, 0, 2, 4, 0, api.MaxTime),
			cable(1, 0, 1, 0, 0, 3, 3, 100, 200),
			cable(0, 30, 0, 2, 1, 2, 2, 100, 200),
			cable(0, 9, 2, 0, 0, 2, 2, 100, 200),
			cable(0, 9, 2, 1, 0, 1, 2, 200, 300),
		},
	}
}

// badDetectors are not valid, each with a fault in another part.
func badDetectors() []api.Detector {
	l := []api.Detector{{}}
	for _, change := range []func(d *api.Detector){
		func(d *api.Detector) { d.Name = "Mixed" },
		func(d *api.Detector) { d.Planes = nil },
		func(d *api.Detector) { d.Planes[1].HalfX = 0 },
		func(d *api.Detector) { d.Planes[2].Depth = 100 },
		func(d *api.Detector) { d.Field = []api.Slab{{Face: 0, From: 1, To: 1}} },
		func(d *api.Detector) { d.Cables[4].Plane = 3 },
		func(d *api.Detector) { d.Cables[4].From = 199 },
	} {
		d := mixed()
		change(&d)
		l = append(l, d)
	}
	return l
}

// odd returns numbers at and beyond the ends of the ranges.
func odd() []int {
	l := []int{math.MinInt, math.MinInt + 1, math.MaxInt - 1, math.MaxInt, -1, 0, 1, 2, 15, 16, 31, 32}
	for _, n := range []int{api.MaxQueue, api.MaxChip, api.MaxFrame, api.MaxWindow, api.MaxEvent, api.MaxTime} {
		l = append(l, -n-1, -n, n-1, n, n+1)
	}
	return l
}

// outside returns numbers that are not from least to greatest.
func outside(least, greatest int) []int {
	return []int{least - 1, greatest + 1, math.MinInt, math.MaxInt, -1 << 32, 1 << 48}
}

func sameFrame(a, b api.Frame) bool {
	return a.Link == b.Link && a.Slot == b.Slot && a.Event == b.Event && a.Time == b.Time && slices.Equal(a.L, b.L)
}

func sameEvent(a, b api.Event) bool {
	return a.Number == b.Number && a.Time == b.Time && slices.Equal(a.Samples, b.Samples) && slices.Equal(a.Missing, b.Missing)
}

// checkSame checks values that can be compared with ==.
func checkSame(t *testing.T, what, got, want any) {
	t.Helper()
	if got != want {
		t.Errorf("%v: %v, want %v", what, got, want)
	}
}

func checkHits(t *testing.T, what any, got, want []api.Raw) {
	t.Helper()
	if !slices.Equal(got, want) {
		t.Errorf("%v: %v, want %v", what, got, want)
	}
}

func checkFrames(t *testing.T, what any, got, want []api.Frame) {
	t.Helper()
	if !slices.EqualFunc(got, want, sameFrame) {
		t.Errorf("%v: %v, want %v", what, got, want)
	}
}

func checkEvents(t *testing.T, what any, got []api.Event, want ...api.Event) {
	t.Helper()
	if !slices.EqualFunc(got, want, sameEvent) {
		t.Errorf("%v: %v, want %v", what, got, want)
	}
}

// checkFails checks the error, which is the last of the results, and that the others are zero values; lists may be empty.
func checkFails(t *testing.T, what any, want api.Errno, results ...any) {
	t.Helper()
	last := len(results) - 1
	if results[last] != want {
		t.Errorf("%v: error %v, want %d", what, results[last], want)
	}
	checkNothing(t, what, results[:last]...)
}

// checkNothing checks that all results are zero values; lists may be empty.
func checkNothing(t *testing.T, what any, results ...any) {
	t.Helper()
	for _, r := range results {
		v := reflect.ValueOf(r)
		if v.Kind() == reflect.Slice && v.Len() > 0 || v.Kind() != reflect.Slice && !v.IsZero() {
			t.Errorf("%v: there is no value, but %v", what, r)
		}
	}
}

// results makes a list of what a call returns.
func results(l ...any) []any { return l }

// mustPack returns the bytes of a valid frame.
func mustPack(t *testing.T, f api.Frame) string {
	t.Helper()
	s, e := readout.Pack(f)
	if e != api.OK {
		t.Fatalf("Pack(%v): error %d", f, e)
	}
	return s
}

// mustSpread returns the frames of a valid event.
func mustSpread(t *testing.T, d api.Detector, v api.Event) []api.Frame {
	t.Helper()
	l, e := readout.Spread(d, v)
	if e != api.OK {
		t.Fatalf("Spread(%v): error %d", v, e)
	}
	return l
}

func between(r *rand.Rand, least, greatest int) int { return least + r.Intn(greatest-least+1) }

// chance is true in one of n cases.
func chance(r *rand.Rand, n int) bool { return r.Intn(n) == 0 }

// randomFrame returns a valid frame with some hits.
func randomFrame(r *rand.Rand) api.Frame {
	f := frame(between(r, 0, 15), between(r, 0, 31), between(r, 0, api.MaxEvent), between(r, 0, api.MaxTime))
	for addr := between(r, 0, 3); addr < 4096 && !chance(r, 6); addr += between(r, 1, 900) {
		f.L = append(f.L, api.Raw{Addr: addr, Adc: between(r, 1, api.MaxAdc)})
	}
	return f
}

// randomDetector returns a valid detector with small planes, and cables of few chips, which change between 0 and 20.
func randomDetector(r *rand.Rand) api.Detector {
	d := api.Detector{Name: "random"}
	for i := range between(r, 1, 3) {
		d.Planes = append(d.Planes, api.Plane{Face: between(r, 0, 5), Depth: 1 + i, Cols: between(r, 1, 5), Rows: between(r, 1, 5), HalfX: 1, HalfY: 1})
	}
	for range between(r, 0, 20) {
		p := between(r, 0, len(d.Planes)-1)
		col, row, from := between(r, 0, d.Planes[p].Cols-1), between(r, 0, d.Planes[p].Rows-1), between(r, 0, 9)
		wide, high := between(r, 1, d.Planes[p].Cols-col), between(r, 1, d.Planes[p].Rows-row)
		d.Cables = append(d.Cables, cable(between(r, 0, 2), between(r, 0, 2), p, col, row, wide, high, from, from+between(r, 1, 15)))
	}
	for {
		_, i, e := detector.Check(d)
		if e == api.OK {
			return d
		}
		d.Cables = slices.Delete(d.Cables, i, i+1)
	}
}

// cellsOf returns the cells of a detector, by rising keys.
func cellsOf(d api.Detector) []api.Cell {
	var l []api.Cell
	for i, p := range d.Planes {
		for col := range p.Cols {
			for row := range p.Rows {
				l = append(l, cell(i, col, row))
			}
		}
	}
	return l
}

// randomEvent returns a valid event of a detector.
func randomEvent(r *rand.Rand, d api.Detector, number, time int) api.Event {
	v := event(number, time)
	for _, c := range cellsOf(d) {
		if _, _, e := detector.Where(d, time, c); e == api.OK && !chance(r, 3) {
			v.Samples = append(v.Samples, api.Sample{Cell: c, Adc: between(r, 1, api.MaxAdc)})
		}
	}
	return v
}

func shuffled(r *rand.Rand, l []api.Frame) []api.Frame {
	l = slices.Clone(l)
	r.Shuffle(len(l), func(i, j int) { l[i], l[j] = l[j], l[i] })
	return l
}
