package detector_test

import (
	"math"
	"math/rand"
	"slices"
	"testing"

	"hodoscope/api"
	"hodoscope/detector"
)

// P3.8, P3.9, P3.14

func TestLiveCables(t *testing.T) {
	for _, x := range []struct {
		time  int
		live  []int
		chips []api.Chip
	}{
		{math.MinInt, nil, nil}, {-1, nil, nil}, {0, []int{1}, []api.Chip{chip(0, 31)}}, {49, []int{1}, []api.Chip{chip(0, 31)}},
		{50, []int{1, 2}, []api.Chip{chip(0, 31), chip(15, 0)}}, {99, []int{1, 2}, []api.Chip{chip(0, 31), chip(15, 0)}},
		{100, []int{0, 1, 2}, []api.Chip{chip(0, 31), chip(2, 5), chip(15, 0)}}, {149, []int{0, 1, 2}, []api.Chip{chip(0, 31), chip(2, 5), chip(15, 0)}},
		{150, []int{0, 1, 5}, []api.Chip{chip(0, 30), chip(0, 31), chip(2, 5)}}, {151, []int{0, 1}, []api.Chip{chip(0, 31), chip(2, 5)}},
		{200, []int{1, 3, 4}, []api.Chip{chip(0, 31), chip(2, 4), chip(2, 5)}}, {249, []int{1, 3, 4}, []api.Chip{chip(0, 31), chip(2, 4), chip(2, 5)}},
		{250, []int{1, 3}, []api.Chip{chip(0, 31), chip(2, 5)}}, {300, []int{1}, []api.Chip{chip(0, 31)}},
		{1<<40 - 1, []int{1}, []api.Chip{chip(0, 31)}}, {1 << 40, nil, nil}, {math.MaxInt, nil, nil},
	} {
		if l := detector.Live(sample(), x.time); !slices.Equal(l, x.live) {
			t.Error("Live", x.time, l, x.live)
		}
		if l := detector.Chips(sample(), x.time); !slices.Equal(l, x.chips) {
			t.Error("Chips", x.time, l, x.chips)
		}
	}
	if l := detector.Times(sample()); !slices.Equal(l, []int{0, 50, 100, 150, 151, 200, 250, 300, 1 << 40}) {
		t.Error("Times", l)
	}
	for _, d := range append(invalid(), with(func(d *api.Detector) { d.Cables = nil })) {
		checkNothing(t, d, detector.Live(d, 100), detector.Times(d), detector.Chips(d, 100))
	}
}

func TestManyChips(t *testing.T) {
	d := many(1, 0, 512)
	r := rand.New(rand.NewSource(11))
	r.Shuffle(512, func(i, j int) { d.Cables[i], d.Cables[j] = d.Cables[j], d.Cables[i] })
	l := detector.Chips(d, 0)
	for i, c := range l {
		if c != chip(i/32, i%32) {
			t.Error("Chips", i, c)
		}
	}
	if live := detector.Live(d, 0); len(l) != 512 || len(live) != 512 || live[0] != 0 || live[511] != 511 {
		t.Error(len(l), live)
	}
}

func TestResolve(t *testing.T) {
	for _, x := range []struct {
		time int
		c    api.Chip
		addr int
		want api.Cell
	}{
		{100, chip(2, 5), 0, cell(0, 1, 0)}, {199, chip(2, 5), 1, cell(0, 1, 1)}, {150, chip(2, 5), 2, cell(0, 2, 0)}, {150, chip(2, 5), 5, cell(0, 3, 1)},
		{200, chip(2, 5), 0, cell(1, 0, 0)}, {299, chip(2, 5), 47, cell(1, 7, 5)}, {250, chip(2, 5), 6, cell(1, 1, 0)},
		{0, chip(0, 31), 7, cell(5, 1, 3)}, {1<<40 - 1, chip(0, 31), 4, cell(5, 1, 0)}, {150, chip(0, 30), 3, cell(5, 2, 3)},
		{50, chip(15, 0), 0, cell(3, 960, 960)}, {149, chip(15, 0), 4095, cell(3, 1023, 1023)}, {149, chip(15, 0), 63, cell(3, 960, 1023)}, {149, chip(15, 0), 64, cell(3, 961, 960)},
	} {
		if c, e := detector.Resolve(sample(), x.time, x.c, x.addr); c != x.want || e != api.OK {
			t.Error("Resolve", x, c, e)
		}
		if c, addr, e := detector.Where(sample(), x.time, x.want); c != x.c || addr != x.addr || e != api.OK {
			t.Error("Where", x, c, addr, e)
		}
	}
}

func TestResolveOfWhatIsNotThere(t *testing.T) {
	for _, x := range []struct {
		time int
		c    api.Chip
		addr int
		e    api.Errno
	}{
		{150, chip(2, 5), 6, api.ErrRange}, {150, chip(2, 5), -1, api.ErrRange}, {200, chip(2, 5), 48, api.ErrRange}, {50, chip(15, 0), 4096, api.ErrRange},
		{150, chip(2, 5), math.MinInt, api.ErrRange}, {150, chip(2, 5), math.MaxInt, api.ErrRange}, {150, chip(2, 5), 1 << 32, api.ErrRange},
		{99, chip(2, 5), 0, api.ErrNone}, {300, chip(2, 5), 0, api.ErrNone}, {99, chip(2, 5), -1, api.ErrNone}, {150, chip(5, 2), 0, api.ErrNone},
		{150, chip(2, 6), 0, api.ErrNone}, {150, chip(3, 5), 0, api.ErrNone}, {150, chip(-1, 5), 0, api.ErrNone}, {150, chip(2, 1<<40), 0, api.ErrNone},
		{-1, chip(0, 31), 0, api.ErrNone}, {1 << 40, chip(0, 31), 0, api.ErrNone}, {math.MinInt, chip(0, 31), 0, api.ErrNone}, {math.MaxInt, chip(0, 31), 99, api.ErrNone},
	} {
		checkFails(t, x, x.e, results(detector.Resolve(sample(), x.time, x.c, x.addr))...)
	}
	for _, d := range invalid() {
		checkFails(t, d, api.ErrArg, results(detector.Resolve(d, 150, chip(2, 5), 0))...)
		checkFails(t, d, api.ErrArg, results(detector.Resolve(d, 150, chip(9, 9), -1))...)
	}
}

func TestWhereOfWhatIsNotThere(t *testing.T) {
	const most, least = math.MaxInt, math.MinInt
	for _, x := range []struct {
		time int
		c    api.Cell
	}{
		{99, cell(0, 1, 0)}, {150, cell(0, 0, 0)}, {150, cell(0, 4, 0)}, {150, cell(0, 1, 2)}, {150, cell(0, 2, -1)}, {150, cell(0, 0, 2)}, {150, cell(0, 0, 3)},
		{150, cell(1, 1, 0)}, {150, cell(7, 1, 0)}, {150, cell(-1, 1, 0)}, {200, cell(0, 2, 0)}, {250, cell(0, 1, 0)}, {151, cell(5, 2, 0)}, {1 << 40, cell(5, 0, 0)},
		{150, cell(0, most, most)}, {150, cell(0, least, least)}, {150, cell(0, 1, most)}, {150, cell(0, 1, least)}, {150, cell(0, 1+1<<62, 0)},
		{150, cell(0, least+1, 0)}, {150, cell(0, least+2, 1)}, {200, cell(1, 1<<62, 0)}, {0, cell(5, 1<<62, 2)}, {0, cell(5, -1<<62, 3)}, {0, cell(5, -1<<61, 0)},
		{-1, cell(5, 0, 0)}, {least, cell(5, 0, 0)}, {most, cell(5, 0, 0)},
	} {
		checkFails(t, x, api.ErrNone, results(detector.Where(sample(), x.time, x.c))...)
	}
	for _, d := range invalid() {
		checkFails(t, d, api.ErrArg, results(detector.Where(d, 150, cell(0, 1, 0)))...)
		checkFails(t, d, api.ErrArg, results(detector.Where(d, 150, cell(-1, 1, 0)))...)
	}
}

// connection is a chip and an address.
type connection struct {
	chip api.Chip
	addr int
}

// connections returns, for a time, the cells of all cables that are live, as the chapter says it.
func connections(d api.Detector, time int) map[connection]api.Cell {
	m := map[connection]api.Cell{}
	for _, c := range d.Cables {
		for col := c.Col; col < c.Col+c.Wide; col++ {
			for row := c.Row; row < c.Row+c.High; row++ {
				if c.From <= time && time < c.To {
					m[connection{chip(c.Link, c.Slot), (col-c.Col)*c.High + (row - c.Row)}] = cell(c.Plane, col, row)
				}
			}
		}
	}
	return m
}

func checkConnections(t *testing.T, d api.Detector, time int) {
	t.Helper()
	want := map[api.Cell]connection{}
	for x, c := range connections(d, time) {
		if got, e := detector.Resolve(d, time, x.chip, x.addr); got != c || e != api.OK {
			t.Error("Resolve", d, time, x, got, e, c)
		}
		if _, twice := want[c]; twice {
			t.Error("two chips have", c)
		}
		want[c] = x
	}
	for i, p := range d.Planes {
		for col := -1; col <= p.Cols; col++ {
			for row := -1; row <= p.Rows; row++ {
				c := cell(i, col, row)
				got, addr, e := detector.Where(d, time, c)
				x, connected := want[c]
				if !connected {
					checkFails(t, c, api.ErrNone, got, addr, e)
				} else if x != (connection{got, addr}) || e != api.OK {
					t.Error("Where", d, time, c, got, addr, e, x)
				}
			}
		}
	}
}

// checkTime compares Live and Chips with the chapter's words.
func checkTime(t *testing.T, d api.Detector, time int) {
	t.Helper()
	var live []int
	var chips []api.Chip
	for i, c := range d.Cables {
		if c.From <= time && time < c.To {
			live = append(live, i)
		}
	}
	for i := range 16 * 32 {
		for _, j := range live {
			if c := d.Cables[j]; c.Link == i/32 && c.Slot == i%32 {
				chips = append(chips, chip(c.Link, c.Slot))
			}
		}
	}
	if l := detector.Live(d, time); !slices.Equal(l, live) {
		t.Error("Live", d, time, l, live)
	}
	if l := detector.Chips(d, time); !slices.Equal(l, chips) {
		t.Error("Chips", d, time, l, chips)
	}
}

func TestCablesOfRandomDetectors(t *testing.T) {
	r := rand.New(rand.NewSource(12))
	for _, d := range valids(r, 100) {
		var changes []int
		times := detector.Times(d)
		for time := -1; time < 30; time++ {
			checkTime(t, d, time)
			if slices.ContainsFunc(d.Cables, func(c api.Cable) bool { return c.From == time || c.To == time }) {
				changes = append(changes, time)
			} else if !slices.Equal(detector.Live(d, time), detector.Live(d, time-1)) {
				t.Error("Live changes between Times", d, time)
			}
		}
		if !slices.Equal(times, changes) {
			t.Error("Times", d, times, changes)
		}
		for range 5 {
			checkConnections(t, d, between(r, 0, 24))
		}
	}
	checkConnections(t, with(func(d *api.Detector) { d.Planes[3].Cols, d.Planes[3].Rows, d.Cables = 2, 3, d.Cables[3:] }), 220)
}

func TestCellsOfAWholeBlock(t *testing.T) {
	d := wired(cable(3, 4, 0, 100, 200, 64, 64, 0, 1<<40), cable(15, 31, 0, 0, 300, 1024, 4, 7, 8))
	for _, c := range d.Cables {
		for addr := range 4096 {
			want := cell(0, c.Col+addr/c.High, c.Row+addr%c.High)
			if got, e := detector.Resolve(d, 7, chip(c.Link, c.Slot), addr); got != want || e != api.OK {
				t.Fatal("Resolve", c, addr, got, e)
			}
			if got, a, e := detector.Where(d, 7, want); got != chip(c.Link, c.Slot) || a != addr || e != api.OK {
				t.Fatal("Where", c, want, got, a, e)
			}
		}
	}
}
