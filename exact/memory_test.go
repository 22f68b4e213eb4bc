package exact_test

import (
	"fmt"
	"slices"
	"testing"

	"hodoscope/api"
	"hodoscope/exact"
)

// P1.8

// results are what a call returned: integers (a ratio is two), and the rest as text.
type results struct {
	ints []api.Int
	text string
}

func gave(values ...any) results {
	var r results
	for _, v := range values {
		switch x := v.(type) {
		case api.Int:
			r.ints = append(r.ints, x)
		case api.Ratio:
			r.ints = append(r.ints, x.Num, x.Den)
		default:
			r.text += fmt.Sprint(x, ";")
		}
	}
	return r
}

func copied(l []api.Int) []api.Int {
	var out []api.Int
	for _, a := range l {
		out = append(out, api.Int{Neg: a.Neg, Words: slices.Clone(a.Words)})
	}
	return out
}

func same(l, m []api.Int) bool {
	return slices.EqualFunc(l, m, func(a, b api.Int) bool { return a.Neg == b.Neg && slices.Equal(a.Words, b.Words) })
}

// spoil overwrites all the memory of a, also what lies beyond its length.
func spoil(a api.Int) {
	words := a.Words[:cap(a.Words)]
	for i := range words {
		words[i] ^= 0xa5a5a5a5
	}
}

func calls() map[string]func(l []api.Int) results {
	r := func(l []api.Int) api.Ratio { return api.Ratio{Num: l[0], Den: l[1]} }
	s := func(l []api.Int) api.Ratio { return api.Ratio{Num: l[2], Den: l[3]} }
	return map[string]func(l []api.Int) results{
		"Small":     func(l []api.Int) results { n, is := exact.Small(l[0]); return gave(n, is) },
		"Normal":    func(l []api.Int) results { return gave(exact.Normal(l[0])) },
		"Sign":      func(l []api.Int) results { return gave(exact.Sign(l[0])) },
		"Cmp":       func(l []api.Int) results { return gave(exact.Cmp(l[0], l[1])) },
		"Neg":       func(l []api.Int) results { return gave(exact.Neg(l[0])) },
		"Add":       func(l []api.Int) results { return gave(exact.Add(l[0], l[1])) },
		"Sub":       func(l []api.Int) results { return gave(exact.Sub(l[0], l[1])) },
		"Mul":       func(l []api.Int) results { return gave(exact.Mul(l[0], l[1])) },
		"Div":       func(l []api.Int) results { q, r, e := exact.Div(l[0], l[1]); return gave(q, r, e) },
		"Gcd":       func(l []api.Int) results { return gave(exact.Gcd(l[0], l[1])) },
		"Power 0":   func(l []api.Int) results { a, e := exact.Power(l[0], 0); return gave(a, e) },
		"Power 1":   func(l []api.Int) results { a, e := exact.Power(l[0], 1); return gave(a, e) },
		"Power 3":   func(l []api.Int) results { a, e := exact.Power(l[0], 3); return gave(a, e) },
		"Root":      func(l []api.Int) results { a, e := exact.Root(l[0]); return gave(a, e) },
		"Text":      func(l []api.Int) results { return gave(exact.Text(l[0])) },
		"Make":      func(l []api.Int) results { a, e := exact.Make(l[0], l[1]); return gave(a, e) },
		"Whole":     func(l []api.Int) results { return gave(exact.Whole(l[0])) },
		"Lowest":    func(l []api.Int) results { return gave(exact.Lowest(r(l))) },
		"Signum":    func(l []api.Int) results { return gave(exact.Signum(r(l))) },
		"Compare":   func(l []api.Int) results { return gave(exact.Compare(r(l), s(l))) },
		"Plus":      func(l []api.Int) results { return gave(exact.Plus(r(l), s(l))) },
		"Minus":     func(l []api.Int) results { return gave(exact.Minus(r(l), s(l))) },
		"Times":     func(l []api.Int) results { return gave(exact.Times(r(l), s(l))) },
		"Quotient":  func(l []api.Int) results { a, e := exact.Quotient(r(l), s(l)); return gave(a, e) },
		"Total":     func(l []api.Int) results { return gave(exact.Total(r(l), s(l), r(l))) },
		"Total 1":   func(l []api.Int) results { return gave(exact.Total(r(l))) },
		"Dot":       func(l []api.Int) results { a, e := exact.Dot([]api.Ratio{r(l)}, []api.Ratio{s(l)}); return gave(a, e) },
		"Floor":     func(l []api.Int) results { return gave(exact.Floor(r(l))) },
		"Nearest":   func(l []api.Int) results { return gave(exact.Nearest(r(l))) },
		"Fixed":     func(l []api.Int) results { a, e := exact.Fixed(r(l), 40); return gave(a, e) },
		"FromFixed": func(l []api.Int) results { a, e := exact.FromFixed(l[0], 40); return gave(a, e) },
		"RootFixed": func(l []api.Int) results { a, e := exact.RootFixed(r(l), 40); return gave(a, e) },
		"Between":   func(l []api.Int) results { a, e := exact.Between(r(l), s(l)); return gave(a, e) },
		"Between =": func(l []api.Int) results { a, e := exact.Between(r(l), r(l)); return gave(a, e) },
		"Decimal":   func(l []api.Int) results { a, e := exact.Decimal(r(l), 9); return gave(a, e) },
		"Show":      func(l []api.Int) results { return gave(exact.Show(r(l))) },
		"Of":        func(l []api.Int) results { return gave(exact.Of(-1 << 40)) },
		"Over":      func(l []api.Int) results { a, e := exact.Over(0, 7); return gave(a, e) },
		"Parse":     func(l []api.Int) results { a, e := exact.Parse("-5000000000"); return gave(a, e) },
		"FromText":  func(l []api.Int) results { a, e := exact.ParseRatio("-5000000000.5"); return gave(a, e) },
	}
}

// arguments are lists of four integers whose words are parts of longer slices.
func arguments() [][]api.Int {
	var out [][]api.Int
	for _, x := range [][4]string{{"7", "2", "9", "2"}, {"0", "1", "0", "1"}, {"1", "1", "1", "1"}, {"36893488147419103232", "3", "36893488147419103232", "1"}, {"-6", "4", "-79228162514264337593543950336", "-18446744073709551615"}, {"5", "0", "0", "5"}, {"340282366920938463463374607431768211455", "18446744073709551617", "340282366920938463463374607431768211456", "18446744073709551616"}} {
		for zeros := range 3 {
			var l []api.Int
			for _, s := range x {
				a := whole(s)
				memory := append(slices.Clone(a.Words), 0, 0, 0, 0, 17, 18, 19)
				a.Words = memory[:len(a.Words)+zeros]
				l = append(l, a)
			}
			out = append(out, l)
		}
	}
	return out
}

// full is l with all the memory of its elements.
func full(l []api.Int) []api.Int {
	var out []api.Int
	for _, a := range l {
		out = append(out, api.Int{Neg: a.Neg, Words: a.Words[:cap(a.Words)]})
	}
	return out
}

func TestArgumentsAreOnlyReadAndResultsAreNew(t *testing.T) {
	for what, call := range calls() {
		for _, l := range arguments() {
			before := copied(full(l))
			got := call(l)
			if !same(full(l), before) {
				t.Error(what, "changes its arguments", before)
			}
			kept := copied(got.ints)
			for i := range got.ints {
				spoil(got.ints[i])
				rest := append(slices.Clone(kept[:i]), kept[i+1:]...)
				if !same(append(slices.Clone(got.ints[:i]), got.ints[i+1:]...), rest) {
					t.Error(what, "returns two integers that share memory, of", before)
				}
				spoil(got.ints[i])
			}
			for i := range got.ints {
				spoil(got.ints[i])
			}
			if !same(full(l), before) {
				t.Error(what, "returns memory of its arguments", before)
			}
			again := call(l)
			if !same(again.ints, kept) || again.text != got.text {
				t.Error(what, "returns something else when it is called again, with", before)
			}
			for _, a := range l {
				spoil(a)
			}
			if !same(again.ints, kept) {
				t.Error(what, "keeps memory of its arguments", before)
			}
		}
	}
}

func TestListsAreOnlyRead(t *testing.T) {
	l := []api.Ratio{ratio("1/2"), {Num: whole("6"), Den: whole("-4")}, {}}
	m := []api.Ratio{ratio("2/3"), {Num: whole("5"), Den: whole("0")}, {Num: whole("1"), Den: api.Int{Words: []uint32{2, 0}}}}
	before, after := fmt.Sprint(l, m), ""
	exact.Total(l...)
	exact.Total(m...)
	if _, e := exact.Dot(l, m); e != api.OK {
		t.Error(e)
	}
	if after = fmt.Sprint(l, m); after != before {
		t.Error("lists are changed:", before, after)
	}
}
