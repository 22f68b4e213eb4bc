package exact_test

import (
	"testing"

	"hodoscope/api"
	"hodoscope/exact"
)

// The rows of the chapter's table of examples.

func TestExamplesOfIntegers(t *testing.T) {
	for _, x := range [][4]string{{"7", "-2", "-4", "-1"}, {"-7", "2", "-4", "1"}} {
		if q, r, e := div(x[0], x[1]); q != x[2] || r != x[3] || e != api.OK {
			t.Error("Div", x, q, r, e)
		}
	}
	if _, _, e := div("1", "0"); e != api.ErrZero {
		t.Error("Div of 1, 0", e)
	}
	if a, e := exact.Root(whole("15")); e != api.OK || exact.Text(a) != "3" {
		t.Error("Root of 15", a, e)
	}
	if a, e := exact.RootFixed(ratio("2"), 4); e != api.OK || exact.Text(a) != "22" {
		t.Error("RootFixed of 2, 4", a, e)
	}
}

func TestExamplesOfRatios(t *testing.T) {
	checkRatio(t, "Lowest of 6 over -4", exact.Lowest(api.Ratio{Num: whole("6"), Den: whole("-4")}), rational("-3/2"))
	checkRatio(t, "Lowest of 5 over 0", exact.Lowest(api.Ratio{Num: whole("5")}), rational("0"))
	checkInt(t, "Nearest of 5/2", exact.Nearest(ratio("5/2")), number("3"))
	checkInt(t, "Nearest of -5/2", exact.Nearest(ratio("-5/2")), number("-2"))
	checkInt(t, "Floor of -5/2", exact.Floor(ratio("-5/2")), number("-3"))
	for _, x := range [][3]string{{"1/3", "1/2", "1/2"}, {"0.31", "0.32", "5/16"}, {"-2", "3", "0"}} {
		if r, e := exact.Between(ratio(x[0]), ratio(x[1])); e != api.OK || exact.Show(r) != x[2] {
			t.Error("Between", x, exact.Show(r), e)
		}
	}
}

func TestExamplesOfTexts(t *testing.T) {
	for _, x := range []struct {
		r      string
		places int
		want   string
	}{{"-1/4", 1, "-0.2"}, {"2/3", 3, "0.667"}, {"-1/2", 0, "0"}} {
		if s, e := exact.Decimal(ratio(x.r), x.places); e != api.OK || s != x.want {
			t.Error("Decimal", x, s, e)
		}
	}
	for _, x := range [][2]string{{"-6/4", "-3/2"}, {"-0.0", "0"}} {
		if r, e := exact.ParseRatio(x[0]); e != api.OK || exact.Show(r) != x[1] {
			t.Error("ParseRatio", x, exact.Show(r), e)
		}
	}
	for _, s := range []string{"1/0", "-0", "00.5"} {
		if _, e := exact.ParseRatio(s); e != api.ErrForm {
			t.Error("ParseRatio", s, e)
		}
	}
}
