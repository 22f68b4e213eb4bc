package pattern_test

import (
	"math/big"
	"slices"

	"hodoscope/api"
	"hodoscope/detector"
)

// The words of the chapter, in the plainest way, for small arguments. Nothing here calls package pattern.

func plainNeighbours(a, b api.Cell) bool {
	if a.Plane != b.Plane {
		return false
	}
	return a.Col == b.Col && (a.Row == b.Row+1 || a.Row == b.Row-1) || a.Row == b.Row && (a.Col == b.Col+1 || a.Col == b.Col-1)
}

// plainGroups returns the numbers from 0 to below n in groups: each one gets the least number of those that are connected
// with it, as long as a number changes.
func plainGroups(n int, connected func(i, j int) bool) [][]int {
	least := make([]int, n)
	for i := range least {
		least[i] = i
	}
	for changed := true; changed; {
		changed = false
		for i := range n {
			for j := range n {
				if i != j && least[j] < least[i] && connected(i, j) {
					least[i] = least[j]
					changed = true
				}
			}
		}
	}
	var l [][]int
	for i := range n {
		var group []int
		for j := range n {
			if least[j] == i {
				group = append(group, j)
			}
		}
		if len(group) > 0 {
			l = append(l, group)
		}
	}
	return l
}

func plainClusters(l []api.Sample) []api.Cluster {
	var clusters []api.Cluster
	for _, group := range plainGroups(len(l), func(i, j int) bool { return plainNeighbours(l[i].Cell, l[j].Cell) }) {
		var own []api.Sample
		for _, i := range group {
			own = append(own, l[i])
		}
		clusters = append(clusters, cluster(own...))
	}
	return clusters
}

// floor is the quotient of two numbers, rounded down.
func floor(n, by *big.Int) int {
	// The remainder of Euclid's division is not below 0, and here by is positive.
	return int(new(big.Int).Div(n, by).Int64())
}

// plainCoordinate is that of the point of a cluster, in x or in y, and its variance, without shifts.
func plainCoordinate(c api.Cluster, centre func(api.Cell) int, number func(api.Cell) int, half int) (place, variance int) {
	sum := new(big.Int)
	seen := map[int]bool{}
	for _, s := range c.Samples {
		sum.Add(sum, new(big.Int).Mul(big.NewInt(int64(s.Adc)), big.NewInt(int64(centre(s.Cell)))))
		seen[number(s.Cell)] = true
	}
	return floor(sum, big.NewInt(int64(c.Charge))), max(1, half*half/(3*len(seen)))
}

func plainPoint(d api.Detector, c api.Cluster, shiftX, shiftY int) api.Point {
	plane := d.Planes[c.Plane]
	x, vx := plainCoordinate(c, func(c api.Cell) int { return (2*c.Col + 1 - plane.Cols) * plane.HalfX }, func(c api.Cell) int { return c.Col }, plane.HalfX)
	y, vy := plainCoordinate(c, func(c api.Cell) int { return (2*c.Row + 1 - plane.Rows) * plane.HalfY }, func(c api.Cell) int { return c.Row }, plane.HalfY)
	return api.Point{Plane: c.Plane, X: x + shiftX, Y: y + shiftY, VX: vx, VY: vy}
}

func depthOf(d api.Detector, p api.Point) int { return d.Planes[p.Plane].Depth }

func plainJoin(d api.Detector, q api.Search, a, b api.Point, face int) bool {
	stack := detector.Stack(d, face)
	i, j := slices.Index(stack, a.Plane), slices.Index(stack, b.Plane)
	if i < 0 || j < 0 || j <= i || j-i-1 > q.Skip {
		return false
	}
	reach := new(big.Int).Mul(big.NewInt(int64(q.Slope)), big.NewInt(int64(depthOf(d, b)-depthOf(d, a))))
	for _, difference := range []int{b.X - a.X, b.Y - a.Y} {
		n := new(big.Int).Mul(big.NewInt(int64(difference)), big.NewInt(1024))
		if n.CmpAbs(reach) > 0 {
			return false
		}
	}
	return true
}

func plainSegments(d api.Detector, q api.Search, l []api.Point, face int) []api.Segment {
	var found []api.Segment
	for a := range l {
		for b := range l {
			if plainJoin(d, q, l[a], l[b], face) {
				found = append(found, api.Segment{A: a, B: b})
			}
		}
	}
	return found
}

func plainBend(a, b, c, u, v int) int {
	term := func(x, y int) *big.Int { return new(big.Int).Mul(big.NewInt(int64(x)), big.NewInt(int64(y))) }
	n := term(c-b, u)
	n.Sub(n, term(b-a, v))
	n.Abs(n)
	return floor(n.Mul(n, big.NewInt(1024)), term(u, v))
}

func plainBends(d api.Detector, a, b, c api.Point) (x, y int) {
	u, v := depthOf(d, b)-depthOf(d, a), depthOf(d, c)-depthOf(d, b)
	return plainBend(a.X, b.X, c.X, u, v), plainBend(a.Y, b.Y, c.Y, u, v)
}

func plainInside(d api.Detector, q api.Search, l []api.Point, s, t api.Segment) bool {
	if s.B != t.A {
		return false
	}
	x, y := plainBends(d, l[s.A], l[s.B], l[t.B])
	return x <= q.Kink && y <= q.Kink
}

// plainChains returns all chains of segments, also those that are not maximal, as lists of segments.
func plainChains(d api.Detector, q api.Search, l []api.Point, face int) [][]api.Segment {
	all := plainSegments(d, q, l, face)
	var chains [][]api.Segment
	for _, s := range all {
		chains = append(chains, []api.Segment{s})
	}
	for i := 0; i < len(chains); i++ {
		for _, s := range all {
			if plainInside(d, q, l, chains[i][len(chains[i])-1], s) {
				chains = append(chains, append(slices.Clone(chains[i]), s))
			}
		}
	}
	return chains
}

func plainLengths(d api.Detector, q api.Search, l []api.Point, face int) []int {
	var lengths []int
	for _, s := range plainSegments(d, q, l, face) {
		longest := 0
		for _, chain := range plainChains(d, q, l, face) {
			if chain[len(chain)-1] == s {
				longest = max(longest, len(chain))
			}
		}
		lengths = append(lengths, longest)
	}
	return lengths
}

func plainEvolve(d api.Detector, q api.Search, l []api.Point, face, steps int) []int {
	all := plainSegments(d, q, l, face)
	states := make([]int, len(all))
	for i := range states {
		states[i] = 1
	}
	for range steps {
		before := slices.Clone(states)
		for i, t := range all {
			for j, s := range all {
				if before[i] == before[j] && plainInside(d, q, l, s, t) {
					states[i] = before[i] + 1
				}
			}
		}
	}
	return states
}

func plainCandidate(d api.Detector, q api.Search, l []api.Point, face int, chain []api.Segment) api.Candidate {
	points := []int{chain[0].A}
	for _, s := range chain {
		points = append(points, s.B)
	}
	weight := q.Reward * len(points)
	for i := 2; i < len(points); i++ {
		x, y := plainBends(d, l[points[i-2]], l[points[i-1]], l[points[i]])
		weight -= x + y
	}
	return candidate(face, max(1, weight), points...)
}

func plainCandidates(d api.Detector, q api.Search, l []api.Point, face int) []api.Candidate {
	all := plainSegments(d, q, l, face)
	var found []api.Candidate
	for _, chain := range plainChains(d, q, l, face) {
		first, last := chain[0], chain[len(chain)-1]
		maximal := !slices.ContainsFunc(all, func(s api.Segment) bool {
			return plainInside(d, q, l, s, first) || plainInside(d, q, l, last, s)
		})
		if maximal && len(chain)+1 >= q.Least {
			found = append(found, plainCandidate(d, q, l, face, chain))
		}
	}
	slices.SortFunc(found, func(a, b api.Candidate) int { return slices.Compare(a.Points, b.Points) })
	return found
}

// plainNext returns the segment with which the filter goes on, plane by plane and point by point.
func plainNext(d api.Detector, q api.Search, l []api.Point, face int, last api.Segment) (api.Segment, bool) {
	stack := detector.Stack(d, face)
	from := slices.Index(stack, l[last.B].Plane)
	for i := from + 1; i < len(stack) && i <= from+q.Skip+1; i++ {
		best, least := -1, 0
		for b, p := range l {
			next := api.Segment{A: last.B, B: b}
			if p.Plane != stack[i] || !plainJoin(d, q, l[last.B], p, face) || !plainInside(d, q, l, last, next) {
				continue
			}
			x, y := plainBends(d, l[last.A], l[last.B], p)
			if best < 0 || x+y < least {
				best, least = b, x+y
			}
		}
		if best >= 0 {
			return api.Segment{A: last.B, B: best}, true
		}
	}
	return api.Segment{}, false
}

func plainFollow(d api.Detector, q api.Search, l []api.Point, face int) []api.Candidate {
	all := plainSegments(d, q, l, face)
	var found []api.Candidate
	for _, first := range all {
		if slices.ContainsFunc(all, func(s api.Segment) bool { return plainInside(d, q, l, s, first) }) {
			continue
		}
		chain := []api.Segment{first}
		for s, ok := plainNext(d, q, l, face, first); ok; s, ok = plainNext(d, q, l, face, s) {
			chain = append(chain, s)
		}
		if len(chain)+1 >= q.Least {
			found = append(found, plainCandidate(d, q, l, face, chain))
		}
	}
	return found
}

func plainCollide(a, b api.Candidate, share int) bool {
	common := map[int]bool{}
	for _, p := range a.Points {
		if slices.Contains(b.Points, p) {
			common[p] = true
		}
	}
	return len(common) > max(share, 0)
}

func plainKnots(l []api.Candidate, share int) [][]int {
	return plainGroups(len(l), func(i, j int) bool { return plainCollide(l[i], l[j], share) })
}

// plainFirst reports whether of two sets the first one has the least index that only one of them has.
func plainFirst(a, b []int) bool {
	for i := 0; ; i++ {
		if inA, inB := slices.Contains(a, i), slices.Contains(b, i); inA != inB {
			return inA
		}
	}
}

// plainChoose goes through all sets of at most 20 candidates.
func plainChoose(l []api.Candidate, share int) []int {
	var best []int
	most := 0
sets:
	for set := range 1 << len(l) {
		var indices []int
		weight := 0
		for i, c := range l {
			if set>>i&1 == 0 {
				continue
			}
			if slices.ContainsFunc(indices, func(j int) bool { return plainCollide(c, l[j], share) }) {
				continue sets
			}
			indices = append(indices, i)
			weight += c.Weight
		}
		if weight > most || weight == most && weight > 0 && plainFirst(indices, best) {
			best, most = indices, weight
		}
	}
	return best
}
