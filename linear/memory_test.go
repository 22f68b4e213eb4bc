package linear_test

import (
	"cmp"
	"fmt"
	"runtime"
	"slices"
	"testing"
	"unsafe"

	"hodoscope/api"
	"hodoscope/exact"
	"hodoscope/linear"
)

// P2.11, and what holds for all functions that take matrices: cells in any form, and ErrShape.

// input is what a call takes.
type input struct {
	m []api.Matrix
	r []api.Ratio
}

// info is the information of the first two matrices and the first ratio.
func (in input) info() api.Info {
	return api.Info{N: in.m[0], R: in.m[1], C: in.r[0], Count: 5}
}

// call is a call with valid arguments.
type call struct {
	name string
	m    []string
	r    string
	do   func(in input) []any
}

func matrixCalls() []call {
	return []call{
		{"Check", []string{"1 2; 3 4"}, "", func(in input) []any { return results(linear.Check(in.m[0])) }},
		{"Cell", []string{"1 2; 3 4"}, "", func(in input) []any { return results(linear.Cell(in.m[0], 1, 0)) }},
		{"Same", []string{"1 2; 3 4", "1 2; 3 4"}, "", func(in input) []any { return results(linear.Same(in.m[0], in.m[1])) }},
		{"Add", []string{"1 0; 3/2 4", "0 1; 3/2 -4"}, "", func(in input) []any { return results(linear.Add(in.m[0], in.m[1])) }},
		{"Scale", []string{"1 2; 0 5000000000"}, "1", func(in input) []any { return results(linear.Scale(in.m[0], in.r[0])) }},
		{"Mul", []string{"1 0; 0 1", "5 6/7 1; 0 1 1"}, "", func(in input) []any { return results(linear.Mul(in.m[0], in.m[1])) }},
		{"Transpose", []string{"1 2 0; 3 4 5/3"}, "", func(in input) []any { return results(linear.Transpose(in.m[0])) }},
		{"Pick", []string{"1 2 0; 3 4 5/3"}, "", func(in input) []any { return results(linear.Pick(in.m[0], []int{1, 1, 0}, []int{2, 2})) }},
		{"Stack", []string{"1 2 0; 3 4 5/3", "6 6 0"}, "", func(in input) []any { return results(linear.Stack(in.m[0], in.m[1])) }},
		{"Reduce", []string{"1 2 3; 2 4 7"}, "", func(in input) []any { return results(linear.Reduce(in.m[0])) }},
		{"Reduce to zeros", []string{"1 2; 1 2; 0 0"}, "", func(in input) []any { return results(linear.Reduce(in.m[0])) }},
		{"Rank", []string{"1 2 3; 2 4 7"}, "", func(in input) []any { return results(linear.Rank(in.m[0])) }},
		{"Det", []string{"1 2; 3 5/7"}, "", func(in input) []any { return results(linear.Det(in.m[0])) }},
		{"Det 1", []string{"1 0; 0 1"}, "", func(in input) []any { return results(linear.Det(in.m[0])) }},
		{"Det 0", []string{"1 1; 1 1"}, "", func(in input) []any { return results(linear.Det(in.m[0])) }},
		{"Inverse", []string{"1 2; 3 5/7"}, "", func(in input) []any { return results(linear.Inverse(in.m[0])) }},
		{"Inverse of 1", []string{"1 0; 0 1"}, "", func(in input) []any { return results(linear.Inverse(in.m[0])) }},
		{"Solve", []string{"1 0; 0 1; 0 0", "5/7 1; 0 2; 0 0"}, "", func(in input) []any { return results(linear.Solve(in.m[0], in.m[1])) }},
		{"Null", []string{"1 2 0 3; 2 4 0 7"}, "", func(in input) []any { return results(linear.Null(in.m[0])) }},
		{"Definite", []string{"2 1/3; 1/3 2"}, "", func(in input) []any { return results(linear.Definite(in.m[0])) }},
		{"LeastSquares", []string{"1 0; 1 1; 1 2", "0; 1/3; 5"}, "1 2 1/3", func(in input) []any {
			return results(linear.LeastSquares(in.m[0], in.m[1], in.r))
		}},
		{"LeastSquares of 1", []string{"1", "7"}, "1", func(in input) []any { return results(linear.LeastSquares(in.m[0], in.m[1], in.r)) }},
	}
}

func infoCalls() []call {
	n, r := "2 1/3; 1/3 2", "1; 0"
	return []call{
		{"CheckInfo", []string{n, r}, "7/2", func(in input) []any { return results(linear.CheckInfo(in.info())) }},
		{"Measure", []string{n, r, "1 2; 0 1", "4; -1/5", "1 0; 0 1"}, "7/2", func(in input) []any {
			return results(linear.Measure(in.info(), in.m[2], in.m[3], in.m[4]))
		}},
		{"Combine", []string{n, r, "0 0; 0 0", "0; 0"}, "7/2 0", func(in input) []any {
			return results(linear.Combine(in.info(), api.Info{N: in.m[2], R: in.m[3], C: in.r[1], Count: 1}))
		}},
		{"Estimate", []string{n, r}, "7/2", func(in input) []any { return results(linear.Estimate(in.info())) }},
		{"Estimate of 1", []string{"1 0; 0 1", "0; 0"}, "0", func(in input) []any { return results(linear.Estimate(in.info())) }},
		{"Marginal", []string{n, r}, "7/2", func(in input) []any { return results(linear.Marginal(in.info(), []int{1})) }},
		{"Marginal of all", []string{n, r}, "7/2", func(in input) []any { return results(linear.Marginal(in.info(), []int{1, 0})) }},
		{"Condition", []string{n, r, "4/3"}, "7/2", func(in input) []any { return results(linear.Condition(in.info(), []int{1}, in.m[2])) }},
		{"Move", []string{n, r, "1 2; 0 1", "1 1; 1 1"}, "7/2", func(in input) []any { return results(linear.Move(in.info(), in.m[2], in.m[3])) }},
		{"Move nowhere", []string{n, r, "1 0; 0 1", "0 0; 0 0"}, "7/2", func(in input) []any {
			return results(linear.Move(in.info(), in.m[2], in.m[3]))
		}},
		{"Constrain", []string{n, r, "1 2", "4"}, "7/2", func(in input) []any { return results(linear.Constrain(in.info(), in.m[2], in.m[3])) }},
		{"Constrain to 0", []string{"1 0; 0 1", "0; 0", "1 0; 0 1", "0; 0"}, "0", func(in input) []any {
			return results(linear.Constrain(in.info(), in.m[2], in.m[3]))
		}},
	}
}

func calls() []call { return append(matrixCalls(), infoCalls()...) }

// input returns the arguments, with change made of each ratio.
func (c call) input(change func(r api.Ratio) api.Ratio) input {
	var in input
	for _, s := range c.m {
		m := matrix(s)
		for i, r := range m.Cells {
			m.Cells[i] = change(r)
		}
		in.m = append(in.m, m)
	}
	for _, r := range ratios(c.r) {
		in.r = append(in.r, change(r))
	}
	return in
}

// roomy returns a with memory beyond its words, so many of which are zeros that belong to it.
func roomy(a api.Int, zeros int) api.Int {
	memory := append(slices.Clone(a.Words), 0, 0, 0, 0, 17, 18, 19)
	return api.Int{Neg: a.Neg, Words: memory[:len(a.Words)+zeros]}
}

func forms() []func(r api.Ratio) api.Ratio {
	times := func(r api.Ratio, n int64) api.Ratio {
		return api.Ratio{Num: roomy(exact.Mul(r.Num, exact.Of(n)), 2), Den: roomy(exact.Mul(r.Den, exact.Of(n)), 1)}
	}
	return []func(r api.Ratio) api.Ratio{
		func(r api.Ratio) api.Ratio { return api.Ratio{Num: roomy(r.Num, 0), Den: roomy(r.Den, 0)} },
		func(r api.Ratio) api.Ratio { return times(r, -1) },
		func(r api.Ratio) api.Ratio { return times(r, 12) },
		func(r api.Ratio) api.Ratio {
			if exact.Signum(r) == 0 {
				return api.Ratio{Num: exact.Of(-8), Den: api.Int{Neg: true, Words: []uint32{0, 0}}}
			}
			return times(r, -5000000000)
		},
	}
}

func text(l []any) string {
	s := ""
	for _, v := range l {
		switch x := v.(type) {
		case api.Matrix:
			s += show(x)
		case api.Info:
			s += showInfo(x)
		case api.Ratio:
			s += exact.Show(x)
		default:
			s += fmt.Sprint(x)
		}
		s += "\n"
	}
	return s
}

func TestCellsInAnyForm(t *testing.T) {
	for _, c := range calls() {
		want := c.do(c.input(exact.Lowest))
		for _, form := range forms() {
			got := c.do(c.input(form))
			if text(got) != text(want) {
				t.Error(c.name, "of cells that are not in normal form is", text(got), "instead of", text(want))
			}
			for _, r := range ratiosIn(got) {
				if !normal(r) {
					t.Error(c.name, "returns something that is not in normal form:", r)
				}
			}
		}
	}
}

// ratiosIn returns all ratios of the results l.
func ratiosIn(l []any) []api.Ratio {
	var out []api.Ratio
	for _, v := range l {
		switch x := v.(type) {
		case api.Ratio:
			out = append(out, x)
		case api.Matrix:
			out = append(out, x.Cells...)
		case api.Info:
			out = append(append(append(out, x.N.Cells...), x.R.Cells...), x.C)
		}
	}
	return out
}

// part is a part of memory.
type part struct{ from, to uintptr }

func partOf[E any](l []E) []part {
	if cap(l) == 0 {
		return nil
	}
	from := uintptr(unsafe.Pointer(unsafe.SliceData(l)))
	return []part{{from, from + uintptr(cap(l))*unsafe.Sizeof(l[:1][0])}}
}

// parts returns the memory of all slices of v.
func parts(v any) []part {
	var out []part
	switch x := v.(type) {
	case api.Int:
		out = partOf(x.Words)
	case api.Ratio:
		out = append(parts(x.Num), parts(x.Den)...)
	case []api.Ratio:
		out = partOf(x)
		for _, r := range x {
			out = append(out, parts(r)...)
		}
	case api.Matrix:
		out = parts(x.Cells)
	case api.Info:
		out = append(append(parts(x.N), parts(x.R)...), parts(x.C)...)
	case []int:
		out = partOf(x)
	}
	return out
}

func TestResultsAreNewMemory(t *testing.T) {
	for _, c := range calls() {
		for _, form := range forms() {
			in := c.input(form)
			all := parts(in.r)
			for _, m := range in.m {
				all = append(all, parts(m)...)
			}
			got := c.do(in)
			for _, v := range got {
				all = append(all, parts(v)...)
			}
			runtime.KeepAlive(in) // else its memory might become that of a result
			runtime.KeepAlive(got)
			slices.SortFunc(all, func(a, b part) int { return cmp.Compare(a.from, b.from) })
			for i := 1; i < len(all); i++ {
				if all[i].from < all[i-1].to {
					t.Error(c.name, "returns memory that is shared")
				}
			}
		}
	}
	for _, m := range []api.Matrix{unit(3), blanksOf(t, 3).N} {
		var all []part
		for _, p := range parts(m) {
			if slices.Contains(all, p) {
				t.Error("cells share memory:", show(m))
			}
			all = append(all, p)
		}
	}
}

func blanksOf(t *testing.T, n int) api.Info {
	f, e := linear.Blank(n)
	checkErrno(t, "Blank", e, api.OK)
	return f
}

// deep returns all the memory of the arguments as text, also what lies beyond the lengths.
func deep(in input) string {
	s := ""
	add := func(l []api.Ratio) {
		for _, r := range l {
			for _, a := range []api.Int{r.Num, r.Den} {
				s += fmt.Sprint(a.Neg, len(a.Words), a.Words[:cap(a.Words)], ";")
			}
		}
	}
	add(in.r)
	for _, m := range in.m {
		s += fmt.Sprint(m.Rows, m.Cols, len(m.Cells), ":")
		add(m.Cells[:cap(m.Cells)])
	}
	return s
}

func TestArgumentsAreOnlyRead(t *testing.T) {
	for _, c := range calls() {
		for _, form := range forms() {
			in := c.input(form)
			before := deep(in)
			first := text(c.do(in))
			if deep(in) != before {
				t.Error(c.name, "changes its arguments")
			}
			if again := text(c.do(in)); again != first {
				t.Error(c.name, "returns something else when it is called again:", again, first)
			}
		}
	}
	rows, cols := []int{1, 0, 1}, []int{0, 2}
	if _, e := linear.Pick(matrix("1 2 3; 4 5 6"), rows, cols); e != api.OK || !slices.Equal(rows, []int{1, 0, 1}) || !slices.Equal(cols, []int{0, 2}) {
		t.Error("Pick changes its lists", rows, cols)
	}
	f := api.Info{N: unit(3), R: blanks(3, 1)}
	if _, e := linear.Marginal(f, rows[:2]); e != api.OK || !slices.Equal(rows, []int{1, 0, 1}) {
		t.Error("Marginal changes its list", rows)
	}
	if _, e := linear.Condition(f, rows[:2], blanks(2, 1)); e != api.OK || !slices.Equal(rows, []int{1, 0, 1}) {
		t.Error("Condition changes its list", rows)
	}
}

func TestInvalidMatrices(t *testing.T) {
	for _, c := range calls() {
		for k := range c.m {
			for _, m := range invalid() {
				in := c.input(exact.Lowest)
				in.m[k] = m
				got := c.do(in)
				if same, is := got[0].(bool); is {
					if same {
						t.Error("Same of an invalid matrix")
					}
					continue
				}
				checkFails(t, fmt.Sprint(c.name, " with the argument ", k, " being ", show(m)), api.ErrShape, got...)
			}
		}
	}
}

func TestInvalidInfos(t *testing.T) {
	two, good := matrix("2 1; 1 2"), api.Info{N: unit(2), R: matrix("1; 1")}
	for _, f := range badInfos() {
		for name, got := range map[string][]any{
			"Measure":          results(linear.Measure(f, matrix("1 0"), matrix("1"), matrix("1"))),
			"Measure of one":   results(linear.Measure(f, matrix("1"), matrix("1"), matrix("1"))),
			"Combine":          results(linear.Combine(f, good)),
			"Combine with":     results(linear.Combine(good, f)),
			"Combine the same": results(linear.Combine(f, f)),
			"Estimate":         results(linear.Estimate(f)),
			"Marginal":         results(linear.Marginal(f, []int{0})),
			"Marginal of none": results(linear.Marginal(f, []int{-1})),
			"Condition":        results(linear.Condition(f, []int{0}, matrix("1"))),
			"Condition none":   results(linear.Condition(f, nil, empty(0, 1))),
			"Move":             results(linear.Move(f, two, two)),
			"Move of one":      results(linear.Move(f, matrix("0"), matrix("-1"))),
			"Constrain":        results(linear.Constrain(f, matrix("1 1"), matrix("1"))),
			"Constrain one":    results(linear.Constrain(f, matrix("1"), matrix("1"))),
		} {
			checkFails(t, name+" of "+showInfo(f), api.ErrShape, got...)
		}
	}
}

func TestNilAndEmpty(t *testing.T) {
	none, list := api.Matrix{Rows: 0, Cols: 2}, api.Matrix{Rows: 0, Cols: 2, Cells: []api.Ratio{}}
	if !linear.Same(none, list) {
		t.Error("Same")
	}
	for _, m := range []api.Matrix{none, list} {
		form, pivots, e := linear.Reduce(m)
		if e != api.OK || len(pivots) != 0 || show(form) != show(none) {
			t.Error("Reduce", show(form), pivots, e)
		}
	}
}
