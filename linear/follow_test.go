package linear_test

import (
	"math/rand"
	"testing"

	"hodoscope/api"
	"hodoscope/exact"
	"hodoscope/linear"
)

// P2.12

// must returns the matrix of a call without an error.
func must(m api.Matrix, e api.Errno) api.Matrix {
	if e != api.OK {
		panic(e)
	}
	return m
}

func mustInfo(f api.Info, e api.Errno) api.Info {
	if e != api.OK {
		panic(e)
	}
	return f
}

func TestMatricesAreARing(t *testing.T) {
	r := rand.New(rand.NewSource(13))
	for range 100 {
		n, m, k, l := r.Intn(4), r.Intn(4), r.Intn(4), r.Intn(4)
		a, b, c, d := random(r, n, m), random(r, m, k), random(r, k, l), random(r, m, k)
		checkMatrix(t, "(a b) c = a (b c)", must(linear.Mul(must(linear.Mul(a, b)), c)), must(linear.Mul(a, must(linear.Mul(b, c)))))
		checkMatrix(t, "a (b + d) = a b + a d", must(linear.Mul(a, must(linear.Add(b, d)))), must(linear.Add(must(linear.Mul(a, b)), must(linear.Mul(a, d)))))
		checkMatrix(t, "b + d = d + b", must(linear.Add(b, d)), must(linear.Add(d, b)))
		checkMatrix(t, "b - b = 0", must(linear.Add(b, must(linear.Scale(b, ratio("-1"))))), blanks(m, k))
		checkMatrix(t, "1 a = a", must(linear.Mul(unit(n), a)), a)
		checkMatrix(t, "a 1 = a", must(linear.Mul(a, unit(m))), a)
	}
}

func TestDeterminantOfAProduct(t *testing.T) {
	r := rand.New(rand.NewSource(14))
	for _, n := range []int{0, 1, 2, 5, 9, 17, 30, api.MaxOrder} {
		a, b := random(r, n, n), random(r, n, n)
		x, _ := linear.Det(a)
		y, _ := linear.Det(b)
		z, e := linear.Det(must(linear.Mul(a, b)))
		checkErrno(t, "Det", e, api.OK)
		checkRatio(t, "Det of a b", z, exact.Times(x, y))
	}
}

// measurement is something that can be measured.
type measurement struct{ h, y, v api.Matrix }

func TestOrderOfMeasurements(t *testing.T) {
	r := rand.New(rand.NewSource(15))
	for range 30 {
		n := 1 + r.Intn(3)
		var l []measurement
		for range 4 {
			rows := r.Intn(3)
			l = append(l, measurement{random(r, rows, n), random(r, rows, 1), firm(r, rows)})
		}
		add := func(f api.Info, order []int) api.Info {
			for _, i := range order {
				f = mustInfo(linear.Measure(f, l[i].h, l[i].y, l[i].v))
			}
			return f
		}
		blank := mustInfo(linear.Blank(n))
		want := add(blank, span(0, 4))
		order := r.Perm(4)
		checkInfo(t, "another order", add(blank, order), want)
		checkInfo(t, "two parts", mustInfo(linear.Combine(add(blank, order[:2]), add(blank, order[2:]))), want)
		checkInfo(t, "a part after another", add(add(blank, order[3:]), order[:3]), want)
	}
}

func TestEstimateOfMarginal(t *testing.T) {
	r := rand.New(rand.NewSource(16))
	for range 60 {
		n := r.Intn(6)
		f, keep := randomInfo(r, n), some(r, n)
		x, cov, chi, _ := linear.Estimate(f)
		y, part, rest, e := linear.Estimate(mustInfo(linear.Marginal(f, keep)))
		checkErrno(t, "Estimate of Marginal", e, api.OK)
		checkMatrix(t, "x of Marginal", y, must(linear.Pick(x, keep, []int{0})))
		checkMatrix(t, "cov of Marginal", part, must(linear.Pick(cov, keep, keep)))
		checkRatio(t, "chi of Marginal", rest, chi)
	}
}

func TestConstrainIsLeast(t *testing.T) {
	r := rand.New(rand.NewSource(17))
	for range 60 {
		n := 2 + r.Intn(4)
		f, a, b := randomInfo(r, n), random(r, 1, n), random(r, 1, 1)
		x, _, chi, e := linear.Constrain(f, a, b)
		if e != api.OK {
			continue
		}
		checkMatrix(t, "a x", must(linear.Mul(a, x)), b)
		free := must(linear.Null(a)) // what can be added to x
		for j := range free.Cols {
			other := plainAdd(x, 1, plainPick(free, span(0, n), []int{j}))
			if exact.Compare(chi, plainRatio(plainValue(f, other))) >= 0 {
				t.Error("the sum of squares of", show(other), "is not above", exact.Show(chi))
			}
		}
	}
}

func TestMovingTwice(t *testing.T) {
	r := rand.New(rand.NewSource(18))
	for range 60 {
		n := r.Intn(4)
		f := randomInfo(r, n)
		a, q, u, p := firm(r, n), gram(r, n, r.Intn(n+1)), firm(r, n), gram(r, n, r.Intn(n+1))
		once := mustInfo(linear.Move(f, a, q))
		twice := mustInfo(linear.Move(once, u, p))
		noise := plainAdd(plainMul(u, plainMul(q, plainTranspose(u))), 1, p)
		checkInfo(t, "moving twice", twice, mustInfo(linear.Move(f, plainMul(u, a), noise)))
		x, cov, chi, _ := linear.Estimate(f)
		y, moved, rest, e := linear.Estimate(once)
		checkErrno(t, "Estimate of Move", e, api.OK)
		checkMatrix(t, "x moved", y, plainMul(a, x))
		checkMatrix(t, "cov moved", moved, plainAdd(plainMul(a, plainMul(cov, plainTranspose(a))), 1, q))
		checkRatio(t, "chi moved", rest, chi)
	}
}
