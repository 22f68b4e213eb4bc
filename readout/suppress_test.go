package readout_test

import (
	"math"
	"math/rand"
	"slices"
	"testing"

	"hodoscope/api"
	"hodoscope/readout"
)

// P5.1: Suppress, Pile.

// filled returns a list of n equal numbers.
func filled(n, x int) []int { return slices.Repeat([]int{x}, n) }

func checkSuppress(t *testing.T, adc []int, pedestal, threshold int, dead []int, want ...int) {
	t.Helper()
	l, e := readout.Suppress(adc, pedestal, threshold, dead)
	checkSame(t, "error of Suppress", e, api.OK)
	checkHits(t, "Suppress", l, hits(want...))
}

func TestSuppress(t *testing.T) {
	checkSuppress(t, []int{5, 9, 20, 4}, 4, 4, []int{2}, 1, 5)
	checkSuppress(t, []int{5, 9, 20, 4}, 4, 4, nil, 1, 5, 2, 16)
	checkSuppress(t, []int{5, 9, 20, 4}, 4, 5, nil, 2, 16)
	checkSuppress(t, []int{5, 9, 20, 4}, 20, 0, nil)
	checkSuppress(t, nil, 0, 0, []int{0, 1})
	checkSuppress(t, []int{0, 1, 4095}, 0, 0, nil, 1, 1, 2, 4095)
	checkSuppress(t, []int{0, 1, 4095}, 0, 4094, nil, 2, 4095)
	checkSuppress(t, []int{0, 1, 4095}, 0, 4095, nil)
	checkSuppress(t, []int{0, 1, 4095}, 4095, 0, nil)
	checkSuppress(t, []int{4095, 4094, 4095}, 4094, 0, nil, 0, 1, 2, 1)
}

func TestSuppressWithAThresholdOf0(t *testing.T) {
	checkSuppress(t, []int{6, 7, 8, 9}, 7, 0, nil, 2, 1, 3, 2)
}

func TestSuppressDead(t *testing.T) {
	adc := []int{10, 20, 30, 40}
	checkSuppress(t, adc, 0, 0, []int{math.MinInt, -1, 4, 5, 4095, 4096, math.MaxInt}, 0, 10, 1, 20, 2, 30, 3, 40)
	checkSuppress(t, adc, 0, 0, []int{3, -3, 0, 3, 0, 3}, 1, 20, 2, 30)
	checkSuppress(t, adc, 0, 0, []int{0, 1, 2, 3})
	checkSuppress(t, adc, 0, 0, filled(100000, 1), 0, 10, 2, 30, 3, 40)
}

func TestSuppressLimits(t *testing.T) {
	l, e := readout.Suppress(filled(4096, 4095), 0, 0, nil)
	checkSame(t, "error of 4096 measurements", e, api.OK)
	checkSame(t, "hits of 4096 measurements", len(l), 4096)
	checkSame(t, "the last hit", l[4095], api.Raw{Addr: 4095, Adc: 4095})
	checkFails(t, "4097 measurements", api.ErrLong, results(readout.Suppress(filled(4097, 1), 0, 0, nil))...)
	checkFails(t, "4097 measurements that are not valid", api.ErrLong, results(readout.Suppress(filled(4097, -1), -1, -1, nil))...)
	for _, n := range outside(0, api.MaxAdc) {
		checkFails(t, n, api.ErrArg, results(readout.Suppress([]int{4, n, 5}, 0, 0, nil))...)
		checkFails(t, n, api.ErrArg, results(readout.Suppress([]int{4, 5, n}, 0, 0, []int{2}))...)
		checkFails(t, n, api.ErrArg, results(readout.Suppress([]int{4}, n, 0, nil))...)
		checkFails(t, n, api.ErrArg, results(readout.Suppress([]int{4}, 0, n, nil))...)
		checkFails(t, n, api.ErrArg, results(readout.Suppress(nil, n, 0, nil))...)
		checkFails(t, n, api.ErrArg, results(readout.Suppress(nil, 0, n, nil))...)
	}
}

func TestSuppressIsWhatTheChapterSays(t *testing.T) {
	r := rand.New(rand.NewSource(1))
	for range 500 {
		var adc, dead []int
		for range between(r, 0, 30) {
			adc = append(adc, between(r, 0, 20))
		}
		for range between(r, 0, 5) {
			dead = append(dead, between(r, -3, 40))
		}
		pedestal, threshold := between(r, 0, 12), between(r, 0, 6)
		var want []int
		for i, n := range adc {
			if !slices.Contains(dead, i) && n-pedestal > threshold {
				want = append(want, i, n-pedestal)
			}
		}
		checkSuppress(t, adc, pedestal, threshold, dead, want...)
	}
}

func checkPile(t *testing.T, a, b []int, want ...int) {
	t.Helper()
	for _, lists := range [][2][]int{{a, b}, {b, a}} {
		l, e := readout.Pile(lists[0], lists[1])
		if e != api.OK || !slices.Equal(l, want) {
			t.Errorf("Pile(%v, %v): %v, error %d, want %v", lists[0], lists[1], l, e, want)
		}
	}
}

func TestPile(t *testing.T) {
	checkPile(t, []int{4000, 5}, []int{100, 1, 2}, 4095, 6, 2)
	checkPile(t, nil, nil)
	checkPile(t, nil, []int{3, 0, 4095}, 3, 0, 4095)
	checkPile(t, []int{4094, 4094, 4095, 0}, []int{1, 2, 4095, 0}, 4095, 4095, 4095, 0)
	checkPile(t, filled(4096, 2000), filled(4095, 2096), append(filled(4095, 4095), 2000)...)
}

func TestPileLimits(t *testing.T) {
	good, long, bad := filled(4096, 1), filled(4097, 1), []int{0, -1}
	checkFails(t, "the first is long", api.ErrLong, results(readout.Pile(long, nil))...)
	checkFails(t, "the second is long", api.ErrLong, results(readout.Pile(good, long))...)
	checkFails(t, "long, and not valid", api.ErrLong, results(readout.Pile(bad, long))...)
	checkFails(t, "not valid, and long", api.ErrLong, results(readout.Pile(long, bad))...)
	for _, n := range outside(0, api.MaxAdc) {
		checkFails(t, n, api.ErrArg, results(readout.Pile([]int{1, n}, good))...)
		checkFails(t, n, api.ErrArg, results(readout.Pile(good, []int{n, 1}))...)
		checkFails(t, n, api.ErrArg, results(readout.Pile(nil, []int{1, 1, n}))...)
	}
}
