package detector_test

import (
	"math/big"
	"math/rand"
	"strings"
	"testing"

	"hodoscope/api"
	"hodoscope/detector"
)

// P3.3, P3.12

// frames are the rows of the chapter's table: D, U and V of each face.
var frames = []string{"+X +Y +Z", "+Y -X +Z", "-X -Y +Z", "-Y +X +Z", "+Z +X +Y", "-Z +Y +X"}

// axes reads a row of the table.
func axes(row string) (axis, sign [3]int) {
	for i, word := range strings.Fields(row) {
		axis[i] = strings.Index("XYZ", word[1:])
		sign[i] = strings.Index("- +", word[:1]) - 1
	}
	return axis, sign
}

// vectors are the three unit vectors of a face.
func vectors(face int) (v [3][3]int) {
	axis, sign := axes(frames[face])
	for i := range v {
		v[i][axis[i]] = sign[i]
	}
	return v
}

func faces(t *testing.T, check func(face int)) {
	for face := range 6 {
		check(face)
	}
	for _, face := range append(odd(), 6, 7) {
		if face >= 0 && face < 6 {
			continue
		}
		axis, sign, e := detector.Axes(face)
		checkFails(t, face, api.ErrNone, axis, sign, e)
		for _, n := range []int{1, api.MaxReach + 1} {
			checkFails(t, face, api.ErrNone, results(detector.Global(face, [3]int{n, 2, 3}))...)
			checkFails(t, face, api.ErrNone, results(detector.Local(face, [3]int{n, 2, 3}))...)
		}
	}
}

func TestAxes(t *testing.T) {
	faces(t, func(face int) {
		axis, sign, e := detector.Axes(face)
		if a, s := axes(frames[face]); axis != a || sign != s || e != api.OK {
			t.Error("Axes", face, axis, sign, e)
		}
	})
}

func checkPlace(t *testing.T, face int, p [3]int) {
	t.Helper()
	var want [3]int
	for i, v := range vectors(face) {
		for j := range want {
			want[j] += p[i] * v[j]
		}
	}
	g, e := detector.Global(face, p)
	if g != want || e != api.OK {
		t.Error("Global", face, p, g, e, want)
	}
	if l, e := detector.Local(face, want); l != p || e != api.OK {
		t.Error("Local", face, want, l, e, p)
	}
	if squares(p).Cmp(squares(g)) != 0 {
		t.Error("the squares of", p, g)
	}
	if l, e := detector.Local(face, p); e != api.OK {
		t.Error("Local", face, p, e)
	} else if g, e := detector.Global(face, l); g != p || e != api.OK {
		t.Error("Global", face, l, g, e, p)
	}
}

func squares(p [3]int) *big.Int {
	sum := new(big.Int)
	for _, n := range p {
		b := big.NewInt(int64(n))
		sum.Add(sum, b.Mul(b, b))
	}
	return sum
}

func TestGlobalAndLocal(t *testing.T) {
	r := rand.New(rand.NewSource(4))
	const reach = api.MaxReach
	for face := range 6 {
		for _, p := range [][3]int{{}, {1, 0, 0}, {0, 1, 0}, {0, 0, 1}, {-1, -2, -3}, {reach, -reach, reach}, {-reach, reach, -reach}, {0, -reach, 0}} {
			checkPlace(t, face, p)
		}
		for range 200 {
			checkPlace(t, face, [3]int{between(r, -reach, reach), between(r, -reach, reach), between(r, -9, 9)})
		}
		for i := range 3 {
			for _, n := range outside(-reach, reach) {
				p := [3]int{4, 5, 6}
				if p[i] = n; n >= -reach && n <= reach {
					continue
				}
				checkFails(t, p, api.ErrRange, results(detector.Global(face, p))...)
				checkFails(t, p, api.ErrRange, results(detector.Local(face, p))...)
			}
		}
	}
}

func TestFramesAreRightHanded(t *testing.T) {
	for face := range 6 {
		var v [3][3]int
		for i := range v {
			p := [3]int{}
			p[i] = 1
			v[i], _ = detector.Global(face, p)
		}
		d, x, y := v[0], v[1], v[2]
		product := [3]int{x[1]*y[2] - x[2]*y[1], x[2]*y[0] - x[0]*y[2], x[0]*y[1] - x[1]*y[0]}
		if d != product {
			t.Error("face", face, d, product)
		}
		axis, sign, _ := detector.Axes(face)
		for i := range v {
			if v[i][axis[i]] != sign[i] {
				t.Error("face", face, v, axis, sign)
			}
		}
	}
}
