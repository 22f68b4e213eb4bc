package pattern_test

import (
	"math"
	"math/rand"
	"slices"
	"testing"

	"hodoscope/api"
	"hodoscope/pattern"
)

// P6.3: Points.

func point(plane, x, y, vx, vy int) api.Point {
	return api.Point{Plane: plane, X: x, Y: y, VX: vx, VY: vy}
}

func TestPointsOfSingleCells(t *testing.T) {
	d := mixed()
	checkPoint(t, d, api.Snapshot{}, cluster(sample(0, 0, 0, 9)), point(0, -36, -6, 27, 1))
	checkPoint(t, d, api.Snapshot{}, cluster(sample(0, 2, 1, 1)), point(0, 0, -2, 27, 1))
	checkPoint(t, d, api.Snapshot{}, cluster(sample(0, 4, 3, 4095)), point(0, 36, 6, 27, 1))
	checkPoint(t, d, api.Snapshot{}, cluster(sample(1, 5, 0, 2)), point(1, 15, -20, 3, 5))
}

// The Adc of samples are their weights.
func TestPointsOfWeightedCells(t *testing.T) {
	d := mixed()
	checkPoint(t, d, api.Snapshot{}, cluster(samples(5, 2, 2, 3, 3, 2, 1)...), point(5, 10, 5, 8, 8))
	checkPoint(t, d, api.Snapshot{}, cluster(samples(5, 2, 2, 1, 3, 2, 3)...), point(5, 17, 5, 8, 8))
	checkPoint(t, d, api.Snapshot{}, cluster(samples(5, 2, 2, 3, 2, 3, 1)...), point(5, 7, 7, 16, 4))
	checkPoint(t, d, api.Snapshot{}, cluster(samples(5, 0, 0, 1, 3, 3, 1)...), point(5, 0, 0, 8, 4))
}

// A sum that is negative is rounded down, too, and not towards 0.
func TestPointsAreRoundedDown(t *testing.T) {
	d := deep(1)
	for _, c := range []struct{ adc, other, x int }{
		{1, 1, 0}, {2, 1, -2}, {1, 2, 1}, {3, 1, -3}, {1, 3, 2}, {4, 1, -3}, {1, 4, 3}, {4095, 4094, -1}, {4094, 4095, 0}, {3, 2, -1}, {2, 3, 1},
	} {
		checkPoint(t, d, api.Snapshot{}, cluster(samples(0, 3, 3, c.adc, 4, 3, c.other)...), point(0, c.x, -5, 4, 8))
		checkPoint(t, d, api.Snapshot{}, cluster(samples(0, 3, 3, c.adc, 3, 4, c.other)...), point(0, -5, c.x, 8, 4))
	}
	checkPoint(t, d, api.Snapshot{}, cluster(samples(0, 0, 0, 2, 1, 0, 1)...), point(0, -32, -35, 4, 8))
}

// The variances depend on how many different columns and rows there are, and are at least 1.
func TestVariancesOfPoints(t *testing.T) {
	d := deep(1)
	for _, c := range []struct{ half, cols, variance int }{
		{1, 1, 1}, {2, 1, 1}, {3, 1, 3}, {3, 2, 1}, {3, 3, 1}, {3, 4, 1}, {4, 2, 2}, {5, 1, 8}, {5, 2, 4}, {4096, 1, 5592405}, {4096, 8, 699050},
	} {
		d.Planes[0].HalfX, d.Planes[0].HalfY = c.half, 1000
		var row, column []api.Sample
		for i := range c.cols {
			row, column = append(row, sample(0, i, 0, 7)), append(column, sample(0, 0, i, 7))
		}
		p, _ := pattern.Points(d, api.Snapshot{}, []api.Cluster{cluster(row...)})
		checkSame(t, "variances of a row", [2]int{p[0].VX, p[0].VY}, [2]int{c.variance, 333333})
		d.Planes[0].HalfX, d.Planes[0].HalfY = 1000, c.half
		p, _ = pattern.Points(d, api.Snapshot{}, []api.Cluster{cluster(column...)})
		checkSame(t, "variances of a column", [2]int{p[0].VX, p[0].VY}, [2]int{333333, c.variance})
	}
}

// Cells of a cluster may occur twice, in any order, and need not be connected.
func TestPointsOfOddClusters(t *testing.T) {
	d := deep(1)
	checkPoint(t, d, api.Snapshot{}, cluster(samples(0, 3, 3, 1, 3, 3, 1, 3, 3, 2)...), point(0, -5, -5, 8, 8))
	checkPoint(t, d, api.Snapshot{}, cluster(samples(0, 4, 3, 1, 3, 3, 1, 4, 3, 2)...), point(0, 2, -5, 4, 8))
	checkPoint(t, d, api.Snapshot{}, cluster(samples(0, 7, 7, 1, 0, 0, 1, 7, 0, 1, 0, 7, 1)...), point(0, 0, 0, 4, 4))
	checkPoint(t, d, api.Snapshot{}, cluster(samples(0, 7, 7, 1, 0, 0, 1, 3, 1, 1)...), point(0, -2, -9, 2, 2))
}

func TestShiftsOfPoints(t *testing.T) {
	d, c := mixed(), cluster(sample(3, 0, 0, 9))
	checkPoint(t, d, api.Snapshot{}, c, point(3, -24, -12, 21, 3))
	checkPoint(t, d, snapshot(api.CoShiftX, 2, 1, 3, 5, 4, 2), c, point(3, -19, -12, 21, 3))
	checkPoint(t, d, snapshot(api.CoShiftY, 2, 1, 3, -5, 4, 2), c, point(3, -24, -17, 21, 3))
	checkPoint(t, d, snapshot(api.CoShiftY, 3, 0), c, point(3, -24, -12, 21, 3))
	both := snapshot(api.CoShiftX, 3, 24)
	both.Kinds[api.CoShiftY] = entries(3, 13)
	checkPoint(t, d, both, c, point(3, 0, 1, 21, 3))
	for _, kind := range []int{api.CoPedestal, api.CoNoise, api.CoDead, api.CoField, api.CoGain} {
		checkPoint(t, d, snapshot(kind, 3, 7), c, point(3, -24, -12, 21, 3))
	}
	checkPoint(t, d, snapshot(api.CoShiftX, 0, 5, key(3, 0, 0), 6), c, point(3, -24, -12, 21, 3))
}

// A shift may be just MaxValue; one more is too much, but only where the shift is used.
func TestGreatShiftsOfPoints(t *testing.T) {
	d, c := mixed(), cluster(sample(3, 0, 0, 9))
	for _, n := range []int{api.MaxValue, -api.MaxValue} {
		checkPoint(t, d, snapshot(api.CoShiftX, 3, n), c, point(3, n-24, -12, 21, 3))
		checkPoint(t, d, snapshot(api.CoShiftY, 3, n), c, point(3, -24, n-12, 21, 3))
	}
	tower := cluster(sample(2, 1, 1, 9))
	for _, n := range outside(-api.MaxValue, api.MaxValue) {
		for _, kind := range []int{api.CoShiftX, api.CoShiftY} {
			checkFails(t, n, api.ErrArg, results(pattern.Points(d, snapshot(kind, 3, n), []api.Cluster{c}))...)
			checkFails(t, n, api.ErrArg, results(pattern.Points(d, snapshot(kind, 3, n), []api.Cluster{cluster(sample(0, 1, 1, 1)), tower, c}))...)
			checkPoint(t, d, snapshot(kind, 0, n, 2, n, 3, 0, 3, n), c, point(3, -24, -12, 21, 3))
			l, e := pattern.Points(d, snapshot(kind, 2, n), []api.Cluster{tower})
			checkList(t, "of the calorimeter", l, e)
		}
	}
}

// The points have the order of the clusters, without those of the calorimeter, which must be valid all the same.
func TestPointsOfManyClusters(t *testing.T) {
	d := mixed()
	a, b, c, tower := cluster(sample(5, 0, 0, 9)), cluster(sample(1, 0, 0, 9)), cluster(sample(0, 0, 0, 9)), cluster(sample(2, 0, 0, 9))
	l, e := pattern.Points(d, api.Snapshot{}, []api.Cluster{a, tower, b, c, a, tower})
	checkList(t, "Points", l, e, point(5, -21, -15, 16, 8), point(1, -15, -20, 3, 5), point(0, -36, -6, 27, 1), point(5, -21, -15, 16, 8))
	l, e = pattern.Points(d, api.Snapshot{}, []api.Cluster{tower, tower})
	checkList(t, "Points of the calorimeter", l, e)
	l, e = pattern.Points(d, api.Snapshot{}, nil)
	checkList(t, "Points of nothing", l, e)
	l, e = pattern.Points(d, api.Snapshot{}, slices.Repeat([]api.Cluster{a}, 600))
	checkList(t, "Points of 600 clusters", l, e, slices.Repeat([]api.Point{point(5, -21, -15, 16, 8)}, 600)...)
}

// badClusters are not valid for the detector mixed; those of the planes 0 and 2.
func badClusters() []api.Cluster {
	var l []api.Cluster
	for _, plane := range []int{0, 2} {
		good := cluster(samples(plane, 1, 1, 5, 1, 2, 6)...)
		change := func(f func(c *api.Cluster)) {
			c := good
			c.Samples = slices.Clone(good.Samples)
			f(&c)
			l = append(l, c)
		}
		l = append(l, api.Cluster{Plane: plane}, api.Cluster{Plane: plane, Charge: 5})
		for _, n := range outside(0, 5) {
			change(func(c *api.Cluster) { c.Plane = n })
			change(func(c *api.Cluster) { c.Samples[1].Cell.Plane = n })
			change(func(c *api.Cluster) { c.Samples[0].Cell.Col = n })
			change(func(c *api.Cluster) { c.Samples[1].Cell.Row = n })
		}
		change(func(c *api.Cluster) { c.Plane = 1 })
		change(func(c *api.Cluster) { c.Samples[1].Cell.Plane = 1 })
		change(func(c *api.Cluster) { c.Samples[1].Cell.Row = 4 })
		for _, n := range []int{-1, 0, 10, 12, math.MinInt, math.MaxInt} {
			change(func(c *api.Cluster) { c.Charge = n })
		}
		for _, n := range outside(1, api.MaxAdc) {
			change(func(c *api.Cluster) { c.Charge, c.Samples[1].Adc = 5+n, n })
		}
		change(func(c *api.Cluster) { c.Charge, c.Samples[0].Adc, c.Samples[1].Adc = 11, -1, 12 })
	}
	return l
}

func TestPointsOfBadClusters(t *testing.T) {
	good := cluster(sample(1, 0, 0, 9))
	for _, c := range badClusters() {
		for _, l := range [][]api.Cluster{{c}, {good, c}, {c, good}} {
			checkFails(t, describe(l), api.ErrArg, results(pattern.Points(mixed(), api.Snapshot{}, l))...)
		}
	}
	for _, d := range badDetectors() {
		checkFails(t, describe(d), api.ErrArg, results(pattern.Points(d, api.Snapshot{}, nil))...)
		checkFails(t, describe(d), api.ErrArg, results(pattern.Points(d, api.Snapshot{}, []api.Cluster{good}))...)
	}
}

// A cluster may have 65536 samples, also of the calorimeter, and not one more.
func TestPointsOfManySamples(t *testing.T) {
	d := mixed()
	d.Planes[0].Cols, d.Planes[0].Rows, d.Planes[0].HalfX, d.Planes[0].HalfY = 1024, 1024, 4096, 4096
	same := slices.Repeat([]api.Sample{sample(0, 1023, 0, 4095)}, 65536)
	checkPoint(t, d, api.Snapshot{}, cluster(same...), point(0, 1023*4096, -1023*4096, 5592405, 5592405))
	checkFails(t, "65537 samples", api.ErrArg, results(pattern.Points(d, api.Snapshot{}, []api.Cluster{cluster(append(same, same[0])...)}))...)
	var block []api.Sample
	for col := range 1024 {
		for row := range 64 {
			block = append(block, sample(0, col, row, 4095))
		}
	}
	checkPoint(t, d, api.Snapshot{}, cluster(block...), point(0, 0, -960*4096, 5461, 87381))
	towers := slices.Repeat([]api.Sample{sample(2, 1, 1, 1)}, 65536)
	l, e := pattern.Points(d, api.Snapshot{}, []api.Cluster{cluster(towers...)})
	checkList(t, "65536 samples of the calorimeter", l, e)
	checkFails(t, "65537 samples of the calorimeter", api.ErrArg, results(pattern.Points(d, api.Snapshot{}, []api.Cluster{cluster(append(towers, towers[0])...)}))...)
}

func TestPointsAreWhatTheChapterSays(t *testing.T) {
	r := rand.New(rand.NewSource(3))
	for range 400 {
		d := randomDetector(r)
		s := snapshot(api.CoShiftX)
		var shifts [12][2]int
		for i := range d.Planes {
			if chance(r, 2) {
				shifts[i] = [2]int{between(r, -50, 50), between(r, -50, 50)}
				s.Kinds[api.CoShiftX] = append(s.Kinds[api.CoShiftX], entries(i, shifts[i][0])...)
				s.Kinds[api.CoShiftY] = append(s.Kinds[api.CoShiftY], entries(i, shifts[i][1])...)
			}
		}
		clusters, _ := pattern.Clusters(d, randomSamples(r, d, between(r, 1, 4)))
		r.Shuffle(len(clusters), func(i, j int) { clusters[i], clusters[j] = clusters[j], clusters[i] })
		var want []api.Point
		for _, c := range clusters {
			if d.Planes[c.Plane].Face != api.Calorimeter {
				want = append(want, plainPoint(d, c, shifts[c.Plane][0], shifts[c.Plane][1]))
			}
		}
		got, e := pattern.Points(d, s, clusters)
		checkList(t, describe(d, clusters), got, e, want...)
	}
}
