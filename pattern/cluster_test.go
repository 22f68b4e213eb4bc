package pattern_test

import (
	"math"
	"math/rand"
	"slices"
	"testing"

	"hodoscope/api"
	"hodoscope/detector"
	"hodoscope/pattern"
)

// P6.1: Alive.

func key(plane, col, row int) int {
	k, _ := detector.Key(cell(plane, col, row))
	return k
}

func checkAlive(t *testing.T, s api.Snapshot, l []api.Sample, want ...api.Sample) {
	t.Helper()
	checkList(t, "Alive", pattern.Alive(s, l), api.OK, want...)
}

func TestAlive(t *testing.T) {
	l := []api.Sample{sample(0, 1, 2, 5), sample(0, 1, 3, 6), sample(1, 0, 0, 7), sample(2, 1023, 1023, 8), sample(63, 0, 1, 9)}
	checkAlive(t, api.Snapshot{}, l, l...)
	checkAlive(t, snapshot(api.CoDead, key(0, 1, 3), 1), l, l[0], l[2], l[3], l[4])
	checkAlive(t, snapshot(api.CoDead, key(0, 1, 2), 1, key(2, 1023, 1023), 1, key(63, 0, 1), 1), l, l[1], l[2])
	checkAlive(t, snapshot(api.CoDead, 0, 1, key(0, 2, 3), 1, key(1, 1, 0), 1), l, l...)
	checkAlive(t, snapshot(api.CoDead, key(0, 1, 2), 1), nil)
}

// A Value of 0 says that a cell is not dead, any other one that it is.
func TestAliveValues(t *testing.T) {
	l := []api.Sample{sample(0, 0, 0, 5), sample(0, 0, 1, 6)}
	checkAlive(t, snapshot(api.CoDead, 0, 0, 1, 0), l, l...)
	for _, n := range []int{1, 2, -1, api.MaxValue, -api.MaxValue, math.MinInt, math.MaxInt} {
		checkAlive(t, snapshot(api.CoDead, 0, n), l, l[1])
		checkAlive(t, snapshot(api.CoDead, 0, 0, 1, n), l, l[0])
	}
}

// A cell without a key is alive, also if there are entries with the key 0, or with what its key would be.
func TestAliveOfCellsWithoutAKey(t *testing.T) {
	s := snapshot(api.CoDead, -1, 1, 0, 1, 1024, 1, 1<<20, 1, 1<<26, 1)
	l := []api.Sample{
		sample(-1, 0, 0, 1), sample(64, 0, 0, 1), sample(math.MaxInt, 0, 0, 1),
		sample(0, -1, 0, 1), sample(0, 1024, 0, 1), sample(0, 0, -1, 1), sample(0, 0, 1024, 1), sample(0, 0, math.MinInt, 1),
	}
	checkAlive(t, s, l, l...)
	checkAlive(t, s, append(l, sample(0, 0, 0, 1)), l...)
}

// Alive looks at nothing but the cells: neither at the order of samples nor at their Adc.
func TestAliveOfAnySamples(t *testing.T) {
	l := []api.Sample{sample(1, 0, 0, -5), sample(0, 1, 1, 0), sample(0, 0, 1, 5000), sample(0, 1, 1, 7), sample(1, 0, 0, -5)}
	checkAlive(t, snapshot(api.CoDead, key(0, 0, 1), 1), l, l[0], l[1], l[3], l[4])
	checkAlive(t, snapshot(api.CoDead, key(0, 1, 1), 1), l, l[0], l[2], l[4])
}

// Only CoDead is asked, and of a snapshot that is not valid the first entry with the key.
func TestAliveOfOtherSnapshots(t *testing.T) {
	l := []api.Sample{sample(0, 0, 0, 5), sample(0, 0, 1, 6)}
	for kind := range api.Kinds {
		if kind != api.CoDead {
			checkAlive(t, snapshot(kind, 0, 1, 1, 1), l, l...)
		}
	}
	checkAlive(t, snapshot(api.CoDead, 1, 0, 0, 1, 0, 0, 1, 1), l, l[1])
}

// P6.2: Clusters.

func TestClusters(t *testing.T) {
	d := deep(3)
	checkClusters(t, d, nil)
	one := sample(2, 7, 7, 4095)
	checkClusters(t, d, []api.Sample{one}, api.Cluster{Plane: 2, Charge: 4095, Samples: []api.Sample{one}})
	column := samples(1, 3, 2, 5, 3, 3, 6, 3, 4, 7)
	checkClusters(t, d, column, api.Cluster{Plane: 1, Charge: 18, Samples: column})
	row := samples(1, 2, 3, 5, 3, 3, 6, 4, 3, 7)
	checkClusters(t, d, row, api.Cluster{Plane: 1, Charge: 18, Samples: row})
	apart := samples(1, 2, 3, 5, 2, 5, 6, 4, 3, 7)
	checkClusters(t, d, apart, cluster(apart[0]), cluster(apart[1]), cluster(apart[2]))
}

// Cells that touch at a corner only are no neighbours.
func TestClustersAtCorners(t *testing.T) {
	d := deep(3)
	down := samples(0, 1, 1, 5, 2, 2, 6, 3, 3, 7)
	checkClusters(t, d, down, cluster(down[0]), cluster(down[1]), cluster(down[2]))
	up := samples(0, 1, 3, 5, 2, 2, 6, 3, 1, 7)
	checkClusters(t, d, up, cluster(up[0]), cluster(up[1]), cluster(up[2]))
	bridged := samples(0, 1, 1, 5, 1, 2, 6, 2, 2, 7)
	checkClusters(t, d, bridged, cluster(bridged...))
}

// A cluster that is closed around a gap, in which there may be another one.
func TestClustersAroundAGap(t *testing.T) {
	d := deep(3)
	ring := samples(0, 1, 1, 1, 1, 2, 2, 1, 3, 3, 2, 1, 4, 2, 3, 5, 3, 1, 6, 3, 2, 7, 3, 3, 8)
	checkClusters(t, d, ring, api.Cluster{Plane: 0, Charge: 36, Samples: ring})
	large := samples(0, 1, 1, 1, 1, 2, 1, 1, 3, 1, 1, 4, 1, 1, 5, 1, 2, 1, 1, 2, 5, 1, 3, 1, 1, 3, 3, 9, 3, 5, 1, 4, 1, 1, 4, 5, 1, 5, 1, 1, 5, 2, 1, 5, 3, 1, 5, 4, 1, 5, 5, 1)
	outer := slices.DeleteFunc(slices.Clone(large), func(s api.Sample) bool { return s.Adc == 9 })
	checkClusters(t, d, large, cluster(outer...), cluster(sample(0, 3, 3, 9)))
	// Two arms that meet only at their ends.
	horseshoe := samples(0, 0, 0, 1, 0, 4, 2, 1, 0, 1, 1, 4, 2, 2, 0, 1, 2, 1, 1, 2, 2, 1, 2, 3, 1, 2, 4, 2)
	checkClusters(t, d, horseshoe, cluster(horseshoe...))
}

// The last row of a column and the first one of the next have consecutive keys, and so have the last cell of a plane and
// the first one of the next.
func TestClustersOfConsecutiveKeys(t *testing.T) {
	d := deep(2)
	for i := range d.Planes {
		d.Planes[i].Cols, d.Planes[i].Rows = 1024, 1024
	}
	l := []api.Sample{sample(0, 4, 1023, 1), sample(0, 5, 0, 2), sample(0, 1023, 1023, 3), sample(1, 0, 0, 4)}
	checkClusters(t, d, l, cluster(l[0]), cluster(l[1]), cluster(l[2]), cluster(l[3]))
}

// Cells of different planes are no neighbours; clusters have the order of the planes, then of their first samples.
func TestClustersOfPlanes(t *testing.T) {
	d := mixed()
	l := slices.Concat(samples(0, 0, 0, 1, 0, 3, 2, 1, 3, 3, 2, 0, 4, 2, 3, 5), samples(1, 0, 0, 6, 1, 0, 7), samples(2, 0, 0, 8, 0, 1, 9, 3, 3, 1), samples(5, 0, 0, 2))
	checkClusters(t, d, l, cluster(l[0]), cluster(l[1], l[2], l[4]), cluster(l[3]), cluster(l[5], l[6]), cluster(l[7], l[8]), cluster(l[9]), cluster(l[10]))
}

func checkBadSamples(t *testing.T, d api.Detector, l []api.Sample) {
	t.Helper()
	checkFails(t, describe("Clusters", l), api.ErrArg, results(pattern.Clusters(d, l))...)
	checkFails(t, describe("Find", l), api.ErrArg, results(pattern.Find(d, api.Snapshot{}, search(), l))...)
}

// badSamples are not valid for the detector mixed.
func badSamples() [][]api.Sample {
	good, last := sample(0, 1, 1, 5), sample(5, 3, 3, 5)
	l := [][]api.Sample{
		{good, good}, {good, sample(0, 1, 1, 6)}, {sample(0, 1, 2, 5), good}, {sample(0, 2, 0, 5), good}, {sample(1, 0, 0, 5), good},
		{sample(0, 0, 0, 5), last, good}, {last, good}, {sample(0, 0, 0, 5), sample(0, 0, 0, 5)},
	}
	add := func(s api.Sample) {
		l = append(l, []api.Sample{s}, []api.Sample{sample(0, 0, 0, 1), s}, []api.Sample{s, last})
	}
	for _, n := range outside(0, 5) {
		add(sample(n, 1, 1, 5))
	}
	for _, n := range outside(0, 4) {
		add(sample(0, n, 1, 5))
	}
	for _, n := range outside(0, 3) {
		add(sample(0, 1, n, 5))
		add(sample(2, n, 1, 5))
	}
	for _, n := range outside(1, api.MaxAdc) {
		add(sample(0, 1, 1, n))
	}
	return l
}

func TestClustersOfBadSamples(t *testing.T) {
	for _, l := range badSamples() {
		checkBadSamples(t, mixed(), l)
	}
	for _, d := range badDetectors() {
		checkBadSamples(t, d, nil)
		checkBadSamples(t, d, []api.Sample{sample(0, 1, 1, 5)})
	}
}

// All cells of a plane of the greatest size, and a way through such a plane that is as long as one can be.
func TestLargeClusters(t *testing.T) {
	d := deep(1)
	d.Planes[0].Cols, d.Planes[0].Rows = 1024, 1024
	var all, way []api.Sample
	for col := range 1024 {
		for row := range 1024 {
			all = append(all, sample(0, col, row, 4095))
			if row%2 == 0 || row%4 == 1 && col == 0 || row%4 == 3 && col == 1023 {
				way = append(way, sample(0, col, row, 1))
			}
		}
	}
	for _, l := range [][]api.Sample{all, way} {
		got, e := pattern.Clusters(d, l)
		if e != api.OK || len(got) != 1 || !sameCluster(got[0], cluster(l...)) {
			t.Errorf("%d clusters, error %d", len(got), e)
		}
	}
}

// P6.2 and P6.12, for random samples.
func TestClustersAreWhatTheChapterSays(t *testing.T) {
	r := rand.New(rand.NewSource(1))
	for range 600 {
		d := randomDetector(r)
		l := randomSamples(r, d, between(r, 1, 4))
		checkClusters(t, d, l, plainClusters(l)...)
	}
}

// P6.12: each sample is in exactly one cluster, no two clusters have cells that are neighbours, and a point is in the least
// rectangle of its cells' centres.
func TestClustersAreApart(t *testing.T) {
	r := rand.New(rand.NewSource(2))
	for range 300 {
		d := randomDetector(r)
		l := randomSamples(r, d, between(r, 1, 4))
		clusters, _ := pattern.Clusters(d, l)
		var together []api.Sample
		for i, c := range clusters {
			together = append(together, c.Samples...)
			for _, other := range clusters[:i] {
				for _, a := range c.Samples {
					if slices.ContainsFunc(other.Samples, func(b api.Sample) bool { return plainNeighbours(a.Cell, b.Cell) }) {
						t.Errorf("%v: a cell of %v has a neighbour in %v", l, c, other)
					}
				}
			}
		}
		slices.SortFunc(together, func(a, b api.Sample) int {
			return key(a.Cell.Plane, a.Cell.Col, a.Cell.Row) - key(b.Cell.Plane, b.Cell.Col, b.Cell.Row)
		})
		checkList(t, "the samples of all clusters", together, api.OK, l...)
		checkRectangles(t, d, clusters)
	}
}

// centres returns the centres of the cells of a cluster.
func centres(d api.Detector, c api.Cluster) (xs, ys []int) {
	for _, s := range c.Samples {
		x, y, _ := detector.Centre(d.Planes[c.Plane], s.Cell.Col, s.Cell.Row)
		xs, ys = append(xs, x), append(ys, y)
	}
	return xs, ys
}

func checkRectangles(t *testing.T, d api.Detector, clusters []api.Cluster) {
	t.Helper()
	for _, c := range clusters {
		points, e := pattern.Points(d, api.Snapshot{}, []api.Cluster{c})
		if d.Planes[c.Plane].Face == api.Calorimeter {
			checkList(t, "Points of the calorimeter", points, e)
			continue
		}
		xs, ys := centres(d, c)
		p := points[0]
		if p.X < slices.Min(xs) || p.X > slices.Max(xs) || p.Y < slices.Min(ys) || p.Y > slices.Max(ys) {
			t.Errorf("the point %v of %v is outside", p, c)
		}
	}
}
