package exact

import (
	"iter"
	"strconv"
	"strings"

	"hodoscope/api"
)

// groupDigits is how many decimal digits a limb always holds, groupSize the number that has one more.
const (
	groupDigits = 19
	groupSize   = 10_000_000_000_000_000_000
)

// groups yields the decimal digits of n, a group at a time, the lowest group first; none for 0.
func groups(n natural) iter.Seq[uint64] {
	return func(yield func(uint64) bool) {
		for left := n; len(left) > 0; {
			var group uint64
			left, group = divideLimb(left, groupSize)
			if !yield(group) {
				return
			}
		}
	}
}

// decimals returns the decimal digits of n; 0 for 0.
func decimals(n natural) string {
	texts := []string{}
	for group := range groups(n) {
		texts = append(texts, strconv.FormatUint(group, 10))
	}
	if len(texts) == 0 {
		return "0"
	}
	var b strings.Builder
	last := len(texts) - 1
	b.WriteString(texts[last])
	for i := last - 1; i >= 0; i-- {
		b.WriteString(padded(texts[i], groupDigits))
	}
	return b.String()
}

// padded returns s with zeros before it, until it has at least size bytes.
func padded(s string, size int) string {
	return strings.Repeat("0", max(0, size-len(s))) + s
}

func (a integer) text() string {
	if a.neg {
		return "-" + decimals(a.size)
	}
	return decimals(a.size)
}

// pieces yields s in pieces of as many bytes as a group has digits; the last piece may be shorter.
func pieces(s string) iter.Seq[string] {
	return func(yield func(string) bool) {
		for left := s; left != ""; {
			size := min(groupDigits, len(left))
			if !yield(left[:size]) {
				return
			}
			left = left[size:]
		}
	}
}

// parseDigits returns the number of which s has the digits; false unless s consists of one or more digits.
func parseDigits(s string) (natural, bool) {
	var n natural
	valid := s != ""
reading:
	for piece := range pieces(s) {
		value, scale := uint64(0), uint64(1)
		for i := range len(piece) {
			if piece[i] < '0' || piece[i] > '9' {
				valid = false
				break reading
			}
			value, scale = 10*value+uint64(piece[i]-'0'), 10*scale
		}
		n = multiplyAdd(n, scale, value)
	}
	return n, valid
}

// leading reports whether the digits s begin as those of a number do: with a 0 only if it is the only one.
func leading(s string) bool {
	return len(s) == 1 || !strings.HasPrefix(s, "0")
}

func parseInteger(s string) (integer, bool) {
	digits, neg := strings.CutPrefix(s, "-")
	n, valid := parseDigits(digits)
	if !valid || !leading(digits) || neg && len(n) == 0 {
		return integer{}, false
	}
	return integer{neg, n}, true
}

func parseQuotient(top, bottom string) (fraction, bool) {
	num, valid := parseInteger(top)
	den, also := parseInteger(bottom)
	if !valid || !also || den.sign() <= 0 {
		return fraction{}, false
	}
	return divided(num, den), true
}

// parseDecimal reads a decimal fraction: before is what stands before the point, after what stands behind it.
func parseDecimal(before, after string) (fraction, bool) {
	first, neg := strings.CutPrefix(before, "-")
	if first == "" || after == "" || len(after) > api.MaxPlaces || !leading(first) {
		return fraction{}, false
	}
	n, valid := parseDigits(first + after)
	if !valid {
		return fraction{}, false
	}
	return fraction{signed(neg, n), raise(natural{10}, len(after))}, true
}

func parseFraction(s string) (fraction, bool) {
	if top, bottom, found := strings.Cut(s, "/"); found {
		return parseQuotient(top, bottom)
	}
	if before, after, found := strings.Cut(s, "."); found {
		return parseDecimal(before, after)
	}
	n, valid := parseInteger(s)
	return whole(n), valid
}

// Text returns the text of a.
func Text(a api.Int) string {
	return read(a).text()
}

// Parse returns the integer whose text is s; ErrLong if s has more than MaxDigits bytes, ErrForm if it is no such text.
func Parse(s string) (api.Int, api.Errno) {
	if len(s) > api.MaxDigits {
		return api.Int{}, api.ErrLong
	}
	n, valid := parseInteger(s)
	if !valid {
		return api.Int{}, api.ErrForm
	}
	return n.value(), api.OK
}

// Decimal returns the decimals of r, rounded to places; ErrArg unless places is from 0 to MaxPlaces.
func Decimal(r api.Ratio, places int) (string, api.Errno) {
	if places < 0 || places > api.MaxPlaces {
		return "", api.ErrArg
	}
	f := readRatio(r)
	scaled := fraction{f.num.times(signed(false, raise(natural{10}, places))), f.den}
	n := scaled.nearest()
	digits := padded(decimals(n.size), places+1)
	point := len(digits) - places
	text := digits[:point]
	if places > 0 {
		text += "." + digits[point:]
	}
	if n.neg {
		text = "-" + text
	}
	return text, api.OK
}

// Show returns the text of r.
func Show(r api.Ratio) string {
	lowest := readRatio(r).value()
	num := Text(lowest.Num)
	if den := read(lowest.Den).size; !den.isOne() {
		return num + "/" + decimals(den)
	}
	return num
}

// ParseRatio returns the number for which s stands: the text of an integer, two with a slash, or a decimal fraction;
// ErrLong if s has more than MaxDigits bytes, ErrForm if it is none of these.
func ParseRatio(s string) (api.Ratio, api.Errno) {
	if len(s) > api.MaxDigits {
		return api.Ratio{}, api.ErrLong
	}
	f, valid := parseFraction(s)
	if !valid {
		return api.Ratio{}, api.ErrForm
	}
	return f.value(), api.OK
}
