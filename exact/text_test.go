package exact_test

import (
	"math/big"
	"math/rand"
	"strings"
	"testing"

	"hodoscope/api"
	"hodoscope/exact"
)

// P1.3

func TestTextAndParse(t *testing.T) {
	r := rand.New(rand.NewSource(4))
	l := edges()
	for n := range int64(60) { // groups of digits that begin with zeros
		l = append(l, power(10, n), new(big.Int).Neg(power(10, n)), new(big.Int).Add(power(10, n), big.NewInt(7)), new(big.Int).Sub(power(10, n), big.NewInt(1)))
	}
	for range 300 {
		l = append(l, random(r, 40))
	}
	for _, n := range l {
		want := n.String()
		for _, a := range messyInts(n) {
			if got := exact.Text(a); got != want {
				t.Error("Text of", a, "is", got, "not", want)
			}
		}
		got, e := exact.Parse(want)
		checkErrno(t, name("Parse", want), e, api.OK)
		checkInt(t, name("Parse", want), got, n)
	}
}

func TestTextOfLongIntegers(t *testing.T) {
	for _, n := range []*big.Int{power(3, 30000), power(-10, 9999), power(2, 65536)} {
		if got := exact.Text(intOf(n)); got != n.String() {
			t.Error("Text of an integer with", len(n.String()), "bytes is", len(got), "bytes long, or has other digits")
		}
	}
}

// malformed are no texts of integers.
var malformed = []string{"", "-", "+", "-0", "00", "01", "-01", "-00", "+1", "--1", "1-", " 1", "1 ", "1\n", "\x00", "1_000", "0x10", "1e3", "1.0", "1/1", "a", "12a", "/", ":",
	"1234567890123456789 ", "12345678901234567890/", "1234567890123456789012345678901234567:", "٣", "1\xff", "-12345678901234567890-1"}

func TestParseMalformed(t *testing.T) {
	for _, s := range malformed {
		got, e := exact.Parse(s)
		checkErrno(t, name("Parse", s), e, api.ErrForm)
		checkZeroInt(t, name("Parse", s), got)
	}
}

func TestParseLong(t *testing.T) {
	for _, s := range []string{strings.Repeat("7", api.MaxDigits), "-" + strings.Repeat("9", api.MaxDigits-1)} {
		got, e := exact.Parse(s)
		checkErrno(t, "Parse of MaxDigits bytes", e, api.OK)
		checkInt(t, "Parse of MaxDigits bytes", got, number(s))
		if exact.Text(got) != s {
			t.Error("Text of Parse differs")
		}
	}
	for _, s := range []string{strings.Repeat("7", api.MaxDigits+1), "-" + strings.Repeat("9", api.MaxDigits), strings.Repeat("0", api.MaxDigits+1), strings.Repeat("x", api.MaxDigits+1), strings.Repeat("5", 20000)} {
		got, e := exact.Parse(s)
		checkErrno(t, "Parse of more than MaxDigits bytes", e, api.ErrLong)
		checkZeroInt(t, "Parse of more than MaxDigits bytes", got)
	}
	for _, s := range []string{strings.Repeat("x", api.MaxDigits), strings.Repeat("0", api.MaxDigits), strings.Repeat("1", api.MaxDigits-1) + "-"} {
		_, e := exact.Parse(s)
		checkErrno(t, "Parse of MaxDigits bytes without the form", e, api.ErrForm)
	}
}

// P1.7

func TestDecimal(t *testing.T) {
	for _, x := range []struct {
		r      string
		places int
		want   string
	}{
		{"0", 0, "0"}, {"0", 3, "0.000"}, {"5", 0, "5"}, {"-5", 2, "-5.00"}, {"1234", 2, "1234.00"},
		{"-1/4", 1, "-0.2"}, {"1/4", 1, "0.3"}, {"2/3", 3, "0.667"}, {"-2/3", 3, "-0.667"}, {"1/2", 0, "1"}, {"-1/2", 0, "0"}, {"-3/2", 0, "-1"},
		{"-1/20", 1, "0.0"}, {"-3/50", 1, "-0.1"}, {"1/1000", 2, "0.00"}, {"-1/1000", 2, "0.00"}, {"1/100", 2, "0.01"}, {"-1/100", 2, "-0.01"}, {"1/10", 2, "0.10"},
		{"999/1000", 2, "1.00"}, {"-999/1000", 2, "-1.00"}, {"199/200", 2, "1.00"}, {"12345678901234567890123/10", 1, "1234567890123456789012.3"},
	} {
		for _, r := range messyRatios(rational(x.r)) {
			got, e := exact.Decimal(r, x.places)
			checkErrno(t, name("Decimal", x.r, x.places), e, api.OK)
			if got != x.want {
				t.Error("Decimal of", x.r, x.places, "is", got, "not", x.want)
			}
		}
	}
}

func TestDecimalAgainstDigits(t *testing.T) {
	r := rand.New(rand.NewSource(5))
	for range 500 {
		f, places := randomRat(r, 6), r.Intn(api.MaxPlaces+1)
		scaled := new(big.Rat).Mul(f, new(big.Rat).SetInt(power(10, int64(places))))
		n := nearest(scaled)
		digits := new(big.Int).Abs(n).String()
		if missing := places + 1 - len(digits); missing > 0 {
			digits = strings.Repeat("0", missing) + digits
		}
		if places > 0 {
			digits = digits[:len(digits)-places] + "." + digits[len(digits)-places:]
		}
		if n.Sign() < 0 {
			digits = "-" + digits
		}
		got, e := exact.Decimal(ratioOf(f), places)
		if e != api.OK || got != digits {
			t.Error("Decimal of", f, places, "is", got, e, "not", digits)
		}
	}
}

func TestDecimalPlaces(t *testing.T) {
	third := ratio("-1/3")
	got, e := exact.Decimal(third, api.MaxPlaces)
	if want := "-0." + strings.Repeat("3", api.MaxPlaces); e != api.OK || got != want {
		t.Error(got, e)
	}
	for _, places := range []int{-1, api.MaxPlaces + 1, 1 << 40, -1 << 63} {
		got, e := exact.Decimal(third, places)
		checkErrno(t, name("Decimal", places), e, api.ErrArg)
		if got != "" {
			t.Error("with an error, Decimal returns", got)
		}
	}
}

func TestShow(t *testing.T) {
	for _, f := range edgeRats() {
		want := f.RatString()
		for _, r := range messyRatios(f) {
			if got := exact.Show(r); got != want {
				t.Error("Show of", r, "is", got, "not", want)
			}
		}
	}
}

func TestParseRatio(t *testing.T) {
	for _, x := range [][2]string{
		{"0", "0"}, {"-7", "-7"}, {"12345678901234567890", "12345678901234567890"},
		{"1/2", "1/2"}, {"-6/4", "-3/2"}, {"6/4", "3/2"}, {"0/5", "0"}, {"8/4", "2"}, {"7/1", "7"}, {"123456789012345678901234567890/987654321098765432109876543210", "13717421/109739369"},
		{"0.0", "0"}, {"-0.0", "0"}, {"0.5", "1/2"}, {"-0.25", "-1/4"}, {"12.50", "25/2"}, {"-10.0", "-10"}, {"0.000", "0"}, {"-0.001", "-1/1000"}, {"3.14159265358979323846", "157079632679489661923/50000000000000000000"},
	} {
		got, e := exact.ParseRatio(x[0])
		checkErrno(t, name("ParseRatio", x[0]), e, api.OK)
		checkRatio(t, name("ParseRatio", x[0]), got, rational(x[1]))
	}
}

func TestParseRatioMalformed(t *testing.T) {
	l := []string{"1/0", "1/-2", "-1/-2", "1/+2", "1/02", "01/2", "-0/5", "1/", "/2", "/", "1//2", "1/2/3", "1/ 2", "1 /2", "1.5/2", "1/2.5", "1/-0", "1/00",
		".", ".5", "5.", "-.5", "-5.", "-", "00.5", "01.5", "-00.5", "+0.5", "--0.5", "1.2.3", "1..2", "1.-2", "1.+2", "1. 2", " 1.2", "1.2 ", "1,2", "1.2e3", "1.a", "a.1", "0x1.8", "-.", "0.5/1"}
	for _, s := range malformed {
		if s != "1.0" && s != "1/1" {
			l = append(l, s)
		}
	}
	for _, s := range l {
		got, e := exact.ParseRatio(s)
		checkErrno(t, name("ParseRatio", s), e, api.ErrForm)
		checkZeroRatio(t, name("ParseRatio", s), got)
	}
}

func TestParseRatioLong(t *testing.T) {
	long := strings.Repeat("7", api.MaxDigits)
	digits := strings.Repeat("3", api.MaxPlaces)
	for _, s := range []string{long, long[2:] + "/3", "3/" + long[2:], "0." + digits, "-12." + digits, long[101:] + "." + digits, "-" + long[102:] + "." + digits} {
		got, e := exact.ParseRatio(s)
		checkErrno(t, "ParseRatio of "+s, e, api.OK)
		checkRatio(t, "ParseRatio of "+s, got, rational(s))
	}
	for _, s := range []string{long + "7", long + "/3", "3/" + long, long + ".5", long[100:] + "." + digits, strings.Repeat("x", api.MaxDigits+1)} {
		got, e := exact.ParseRatio(s)
		checkErrno(t, "ParseRatio of more than MaxDigits bytes", e, api.ErrLong)
		checkZeroRatio(t, "ParseRatio of more than MaxDigits bytes", got)
	}
	for _, s := range []string{"0." + digits + "3", "0." + digits + "0", "-1." + long[:200], strings.Repeat("x", api.MaxDigits), "0." + long[2:]} {
		_, e := exact.ParseRatio(s)
		checkErrno(t, "ParseRatio of "+s, e, api.ErrForm)
	}
}
