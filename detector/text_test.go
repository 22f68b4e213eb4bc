package detector_test

import (
	"fmt"
	"math/rand"
	"regexp"
	"slices"
	"strings"
	"testing"

	"hodoscope/api"
	"hodoscope/detector"
)

// P3.2, P3.11

const sampleText = `detector sample-1
plane 0 100 4 2 5 7 1
plane 6 0 8 6 10 10 0
plane 0 40 3 3 20 20 1000
plane 0 65536 1024 1024 4096 4096 0
plane 5 1 1 1 1 1 10
plane 4 100 6 4 3 9 20
plane 0 101 2 5 8 6 300
slab 0 50 60 -7
slab 0 0 30 1024
slab 4 20 65536 3
slab 0 60 100 11
cable 2 5 0 1 0 3 2 100 200
cable 0 31 5 0 0 2 4 0 1099511627776
cable 15 0 3 960 960 64 64 50 150
cable 2 5 1 0 0 8 6 200 300
cable 2 4 0 1 0 1 2 200 250
cable 0 30 5 2 0 2 4 150 151
`

func checkParse(t *testing.T, text string, want api.Detector) {
	t.Helper()
	d, line, e := detector.Parse(text)
	if line != 0 || e != api.OK || !same(d, want) {
		t.Errorf("Parse of %q: %v, line %d, error %d, want %v", text, d, line, e, want)
	}
}

func checkRefused(t *testing.T, text string, line int, e api.Errno) {
	t.Helper()
	d, n, f := detector.Parse(text)
	if n != line || f != e || !same(d, api.Detector{}) {
		t.Errorf("Parse of %q: %v, line %d, error %d, want line %d, error %d", text, d, n, f, line, e)
	}
}

func TestTextOfTheSample(t *testing.T) {
	if s := detector.Print(sample()); s != sampleText {
		t.Errorf("Print: %q", s)
	}
	checkParse(t, sampleText, sample())
}

func TestShortTexts(t *testing.T) {
	for _, x := range []struct {
		text string
		d    api.Detector
	}{
		{"detector a\nplane 6 0 1 1 1 1 0\n", api.Detector{Name: "a", Planes: []api.Plane{plane(6, 0, 1, 1, 1, 1, 0)}}},
		{"detector detector\nplane 5 65536 1024 1023 4096 4095 1000\nslab 5 65535 65536 -1024\n",
			api.Detector{Name: "detector", Planes: []api.Plane{plane(5, 65536, 1024, 1023, 4096, 4095, 1000)}, Field: []api.Slab{slab(5, 65535, 65536, -1024)}}},
		{"detector plane\nplane 1 2 3 4 5 6 7\ncable 15 31 0 2 3 1 1 1099511627775 1099511627776\n",
			api.Detector{Name: "plane", Planes: []api.Plane{plane(1, 2, 3, 4, 5, 6, 7)}, Cables: []api.Cable{cable(15, 31, 0, 2, 3, 1, 1, 1<<40-1, 1<<40)}}},
	} {
		checkParse(t, x.text, x.d)
		if s := detector.Print(x.d); s != x.text {
			t.Errorf("Print of %v: %q", x.d, s)
		}
	}
}

func TestTextsAtTheLimits(t *testing.T) {
	checkParse(t, detector.Print(many(64, 64, 512)), many(64, 64, 512))
	planes, slabs, cables := strings.Repeat("plane 0 1 1 1 1 1 0\n", 65), strings.Repeat("slab 0 0 1 0\n", 65), strings.Repeat("cable 0 0 0 0 0 1 1 0 1\n", 513)
	checkRefused(t, "detector a\n"+planes, 1, api.ErrLong)
	checkRefused(t, "detector a\nplane 0 1 1 1 1 1 0\n"+slabs, 1, api.ErrLong)
	checkRefused(t, "detector a\nplane 0 1 1 1 1 1 0\n"+cables, 1, api.ErrLong)
	checkRefused(t, "detector a\n"+planes+slabs+cables+"cable", 65+65+513+2, api.ErrForm)
}

func TestTextsWithoutTheForm(t *testing.T) {
	for _, x := range []struct {
		text string
		line int
	}{
		{"", 1}, {"\n", 1}, {"detector", 1}, {"detector\n", 1}, {"detector \n", 1}, {"detector  a\n", 1}, {" detector a\n", 1},
		{"detector a \n", 1}, {"detector a b\n", 1}, {"Detector a\n", 1}, {"detectora\n", 1}, {"detector\ta\n", 1}, {"plane 0 1 1 1 1 1 0\n", 1},
		{"detector a", 1}, {"detector a\n\n", 2}, {"\ndetector a\n", 1}, {"detector a\r", 1}, {"detector a\n\r\n", 2}, {"detector A\n ", 2},
		{"detector a\ndetector a\n", 2}, {"detector a\nplane\n", 2}, {"detector a\nline 0 1 1 1 1 1 0\n", 2}, {"detector a\nPlane 0 1 1 1 1 1 0\n", 2},
	} {
		checkRefused(t, x.text, x.line, api.ErrForm)
	}
	good := []string{"plane 0 1 1 1 1 1 0", "slab 0 0 1 0", "cable 0 0 0 0 0 1 1 0 1"}
	for i, s := range good {
		head := "detector a\n"
		for _, x := range good[:i] {
			head += x + "\n"
		}
		checkRefused(t, head+s, i+2, api.ErrForm)
		for _, bad := range []string{s + " ", s + " 0", " " + s, strings.Replace(s, " ", "  ", 1), s[:len(s)-1] + " " + s[len(s)-1:], s[:len(s)-2], s + "\r", s + "\t", s + "x", strings.ReplaceAll(s, " ", "\t"), "", " ", strings.ToUpper(s)} {
			checkRefused(t, head+bad+"\n", i+2, api.ErrForm)
			checkRefused(t, head+bad+"\n"+s+"\n", i+2, api.ErrForm)
			checkRefused(t, head+s+"\n"+bad+"\n", i+3, api.ErrForm)
		}
	}
}

func TestTextsInAnotherOrder(t *testing.T) {
	head, p, s, c := "detector a\nplane 0 9 1 1 1 1 0\n", "plane 0 1 1 1 1 1 0\n", "slab 0 0 1 0\n", "cable 0 0 0 0 0 1 1 0 1\n"
	for _, x := range []struct {
		text string
		line int
	}{
		{head + s + p, 4}, {head + c + p, 4}, {head + c + s, 4}, {head + p + s + p, 5}, {head + s + c + s, 5}, {head + s + c + p, 5}, {head + p + s + c + c + p + s, 7},
	} {
		checkRefused(t, x.text, x.line, api.ErrForm)
	}
	checkParse(t, head+p+s+c, api.Detector{Name: "a", Planes: []api.Plane{plane(0, 9, 1, 1, 1, 1, 0), plane(0, 1, 1, 1, 1, 1, 0)}, Field: []api.Slab{slab(0, 0, 1, 0)}, Cables: []api.Cable{cable(0, 0, 0, 0, 0, 1, 1, 0, 1)}})
}

func TestNumbersOfTexts(t *testing.T) {
	lines := strings.Split(strings.TrimSuffix(sampleText, "\n"), "\n")
	for _, n := range []int{1, 7, 8, 11, 12, 17} {
		for word := range strings.Split(lines[n], " ")[1:] {
			replaced := func(number string) string {
				words := strings.Split(lines[n], " ")
				words[word+1] = number
				l := slices.Clone(lines)
				l[n] = strings.Join(words, " ")
				return strings.Join(l, "\n") + "\n"
			}
			for _, bad := range []string{"", "-", "-0", "+0", "+1", "00", "01", "-01", "-00", "--1", "1-", "0x1", "1e1", "1.0", "1_0", "a", "١", "10000000000000", "-10000000000000", "99999999999999", "9223372036854775808", "00000000000000000001", "18446744073709551617", "1\t", "1\r", "1\x00"} {
				checkRefused(t, replaced(bad), n+1, api.ErrForm)
			}
			// These have the form; which error they are is Check's matter.
			for _, wrong := range []string{"9999999999999", "-9999999999999", "-1025"} {
				e := api.ErrRange
				if n >= 12 && word == 2 {
					e = api.ErrNone
				}
				checkRefused(t, replaced(wrong), n+1, e)
			}
		}
	}
}

func TestTextsOfDetectorsThatAreNotValid(t *testing.T) {
	for _, x := range []struct {
		text string
		line int
		e    api.Errno
	}{
		{"detector a\n", 1, api.ErrArg},
		{"detector A\nplane 0 1 1 1 1 1 0\n", 1, api.ErrArg},
		{"detector a\r\nplane 0 1 1 1 1 1 0\n", 1, api.ErrArg},
		{"detector \t\xff\x00\nplane 0 1 1 1 1 1 0\n", 1, api.ErrArg},
		{"detector " + strings.Repeat("a", 33) + "\nplane 0 1 1 1 1 1 0\n", 1, api.ErrArg},
		{"detector " + strings.Repeat("a", 100000) + "\nplane 0 1 1 1 1 1 0\n", 1, api.ErrArg},
		{"detector a\nslab 0 0 1 0\n", 1, api.ErrArg},
		{"detector a\nplane 0 1 1 1 1 1 0\nplane 0 0 1 1 1 1 0\n", 3, api.ErrRange},
		{"detector a\nplane 0 1 1 1 1 1 0\nplane 0 1 1 1 1 1 0\nslab 9 9 9 9\n", 3, api.ErrThere},
		{"detector a\nplane 0 1 1 1 1 1 0\nplane 0 2 1 1 1 1 0\nslab 0 0 1 0\nslab 0 1 1 0\n", 5, api.ErrRange},
		{"detector a\nplane 0 1 1 1 1 1 0\nplane 0 2 1 1 1 1 0\nslab 0 0 2 0\nslab 0 1 2 0\ncable 0 0 9 0 0 1 1 0 1\n", 5, api.ErrThere},
		{"detector a\nplane 0 1 1 1 1 1 0\nslab 0 0 1 0\ncable 0 0 0 0 0 1 1 0 1\ncable 0 1 1 0 0 1 1 0 1\n", 5, api.ErrNone},
		{"detector a\nplane 0 1 1 1 1 1 0\nslab 0 0 1 0\ncable 0 0 0 0 0 1 1 0 1\ncable 0 1 0 0 0 1 1 0 1\n", 5, api.ErrThere},
		{"detector a\nplane 0 1 1 1 1 1 0\ncable 0 0 0 0 0 1 2 0 1\n", 3, api.ErrRange},
		{"detector A\nplane 0 1 1 1 1 1 0\nplane 0 1 1 1 1 1 00\n", 3, api.ErrForm},
		{"detector a\nplane 9 1 1 1 1 1 0\nplane 0 1 1 1 1 1 0", 3, api.ErrForm},
	} {
		checkRefused(t, x.text, x.line, x.e)
	}
	for _, d := range invalid() {
		if s := detector.Print(d); s != "" {
			t.Errorf("Print of %v: %q", d, s)
		}
	}
}

func TestNamesOfTexts(t *testing.T) {
	tail := "\nplane 0 1 1 1 1 1 0\n"
	for c := range 256 {
		name := "a" + string([]byte{byte(c)})
		switch {
		case c == ' ' || c == '\n':
			checkRefused(t, "detector "+name+tail, map[bool]int{true: 1, false: 2}[c == ' '], api.ErrForm)
		case 'a' <= c && c <= 'z' || '0' <= c && c <= '9' || c == '-':
			checkParse(t, "detector "+name+tail, api.Detector{Name: name, Planes: []api.Plane{plane(0, 1, 1, 1, 1, 1, 0)}})
		default:
			checkRefused(t, "detector "+name+tail, 1, api.ErrArg)
		}
	}
}

const number = ` (0|-?[1-9][0-9]{0,12})`

// forms are those of the four kinds of lines.
var forms = []*regexp.Regexp{
	regexp.MustCompile(`\A(?s:detector ([^ \n]+))\z`),
	regexp.MustCompile(`\Aplane` + strings.Repeat(number, 7) + `\z`),
	regexp.MustCompile(`\Aslab` + strings.Repeat(number, 4) + `\z`),
	regexp.MustCompile(`\Acable` + strings.Repeat(number, 9) + `\z`),
}

// plainRead reads a text by the patterns of its lines, and returns what Parse must return.
func plainRead(s string) (d api.Detector, line int, e api.Errno) {
	last, l := 0, strings.Split(s, "\n")
	var at [4][]int
	for i, text := range l[:len(l)-1] {
		kind := slices.IndexFunc(forms, func(f *regexp.Regexp) bool { return f.MatchString(text) })
		if kind < last || (kind == 0) != (i == 0) {
			return api.Detector{}, i + 1, api.ErrForm
		}
		last = kind
		at[kind] = append(at[kind], i+1)
		var n [9]int
		for j, word := range strings.Split(text, " ")[1:] {
			if kind > 0 {
				fmt.Sscan(word, &n[j])
			}
		}
		switch kind {
		case 0:
			d.Name = strings.SplitN(text, " ", 2)[1]
		case 1:
			d.Planes = append(d.Planes, plane(n[0], n[1], n[2], n[3], n[4], n[5], n[6]))
		case 2:
			d.Field = append(d.Field, slab(n[0], n[1], n[2], n[3]))
		case 3:
			d.Cables = append(d.Cables, cable(n[0], n[1], n[2], n[3], n[4], n[5], n[6], n[7], n[8]))
		}
	}
	if l[len(l)-1] != "" || len(l) == 1 {
		return api.Detector{}, len(l), api.ErrForm
	}
	if part, index, e := detector.Check(d); e != api.OK {
		return api.Detector{}, at[part][index], e
	}
	return d, 0, api.OK
}

// changed returns a text with one to three small changes.
func changed(r *rand.Rand, s string) string {
	const bytes = "  --00123456789aA\n\n\t+"
	for range between(r, 1, 3) {
		i := r.Intn(len(s) + 1)
		j := min(i+r.Intn(2), len(s))
		put := ""
		if r.Intn(3) > 0 {
			k := r.Intn(len(bytes))
			put = bytes[k : k+1]
		}
		s = s[:i] + put + s[j:]
	}
	if r.Intn(4) == 0 {
		l := strings.SplitAfter(s, "\n")
		i, j := r.Intn(len(l)), r.Intn(len(l))
		l[i], l[j] = l[j], l[i]
		s = strings.Join(l, "")
	}
	return s
}

func TestChangedTexts(t *testing.T) {
	r := rand.New(rand.NewSource(2))
	l := append(valids(r, 20), sample())
	seen := map[api.Errno]int{}
	for range 20000 {
		s := changed(r, detector.Print(l[r.Intn(len(l))]))
		want, line, e := plainRead(s)
		seen[e]++
		if e != api.OK {
			checkRefused(t, s, line, e)
			continue
		}
		checkParse(t, s, want)
		if printed := detector.Print(want); printed != s {
			t.Errorf("what Parse accepts is not what Print returns: %q, %q", s, printed)
		}
	}
	for _, e := range []api.Errno{api.OK, api.ErrForm, api.ErrRange, api.ErrThere, api.ErrArg, api.ErrNone} {
		if seen[e] < 20 {
			t.Error("of error", e, "only", seen[e])
		}
	}
}

func TestParseOfWhatPrintReturns(t *testing.T) {
	r := rand.New(rand.NewSource(3))
	for _, d := range valids(r, 1000) {
		checkParse(t, detector.Print(d), d)
	}
}
