package condition_test

import (
	"fmt"
	"slices"
	"strings"
	"testing"

	"hodoscope/api"
	"hodoscope/condition"
)

// P4.6, P4.12

func TestLogOfABook(t *testing.T) {
	checkSame(t, "Log of a new book", condition.New().Log(), "")
	b := condition.New()
	begin(t, b, 3, 0, 1)
	checkSame(t, "Log", b.Log(), "begin 3 0 "+sumOf("0000000000000000begin 3 0")+"\n")
	checkSame(t, "Log of the sample", sample(t).Log(), logOf(sampleLines()...))
}

func TestCallsWithErrorsAreNotInTheLog(t *testing.T) {
	b := condition.New()
	begin(t, b, 3, 0, 1)
	before := b.Log()
	b.Begin(7, 0)
	b.Begin(3, 2)
	b.Put(3, 1, -1, nil)
	b.Put(3, 2, 0, nil)
	b.Drop(3, 1, 0)
	b.Close(3, 2)
	b.Tag("A", numbers())
	b.Tag("a", numbers(0, 0, 0, 1))
	checkSame(t, "Log", b.Log(), before)
}

func checkLoad(t *testing.T, s string, want *condition.Book) {
	t.Helper()
	b, used := condition.Load(s)
	if used != len(want.Log()) {
		t.Errorf("Load of %q uses %d bytes, want %d", s, used, len(want.Log()))
	}
	if got := view(b); got != view(want) {
		t.Errorf("Load of %q: %s, want %s", s, got, view(want))
	}
}

// prefixes returns the books whose logs are the first lines of the sample's log: of none, of one, and so on.
func prefixes(t *testing.T) []*condition.Book {
	t.Helper()
	var l []*condition.Book
	for i := range len(sampleLines()) + 1 {
		text := logOf(sampleLines()[:i]...)
		b, used := condition.Load(text)
		if used != len(text) || b.Log() != text {
			t.Fatalf("Load of %d lines uses %d bytes, not %d", i, used, len(text))
		}
		l = append(l, b)
	}
	return l
}

func TestLoadOfAWholeLog(t *testing.T) {
	checkLoad(t, sample(t).Log(), sample(t))
	checkLoad(t, "", condition.New())
}

// Load of the first lines of a log is the book after their calls, which are made here again.
func TestLoadOfTheFirstLines(t *testing.T) {
	books := prefixes(t)
	b := condition.New()
	steps := []func(){
		func() { begin(t, b, 0, 0, 1) },
		func() { put(t, b, 0, 1, 0, 0, 100, 511, 101) },
		func() { put(t, b, 0, 1, 50, 0, 110) },
		func() { begin(t, b, 3, 0, 1) },
		func() { put(t, b, 3, 1, 20, 0, 7, 1, -2) },
		func() { put(t, b, 3, 1, 10, 0, 5) },
		func() { put(t, b, 3, 1, 30) },
		func() { shut(t, b, 3, 1) },
		func() { shut(t, b, 0, 1) },
		func() { tag(t, b, "first", 1, 0, 0, 1) },
		func() { begin(t, b, 3, 1, 2) },
		func() { drop(t, b, 3, 2, 20) },
	}
	for i, step := range steps {
		checkSame(t, fmt.Sprint("after ", i, " calls"), view(books[i]), view(b))
		step()
	}
}

func TestLoadOfEachBeginning(t *testing.T) {
	text, books := sample(t).Log(), prefixes(t)
	for i := range len(text) + 1 {
		checkLoad(t, text[:i], books[strings.Count(text[:i], "\n")])
	}
}

func TestLoadOfChangedLogs(t *testing.T) {
	text, books := sample(t).Log(), prefixes(t)
	for i := range len(text) {
		want := books[strings.Count(text[:i], "\n")]
		for _, c := range []byte{0, '\n', ' ', '-', '0', '1', '9', 'a', 'f', 'A', 0xff, text[i] ^ 1, text[i] ^ 0x20, text[i] ^ 0x80} {
			if c == text[i] {
				continue
			}
			b, used := condition.Load(text[:i] + string([]byte{c}) + text[i+1:])
			if used != len(want.Log()) || b.Log() != want.Log() {
				t.Fatalf("byte %d as %q: Load uses %d bytes, want %d", i, c, used, len(want.Log()))
			}
		}
	}
}

// common returns how many bytes two texts begin with that are the same.
func common(a, b string) int {
	n := 0
	for n < len(a) && n < len(b) && a[n] == b[n] {
		n++
	}
	return n
}

func TestLoadOfLogsWithALossOrAnAddition(t *testing.T) {
	text, books := sample(t).Log(), prefixes(t)
	for i := range len(text) {
		for _, s := range []string{text[:i] + text[i+1:], text[:i] + " " + text[i:], text[:i] + "\n" + text[i:], text[:i] + "0" + text[i:]} {
			want := books[strings.Count(text[:common(s, text)], "\n")].Log()
			b, used := condition.Load(s)
			if used != len(want) || b.Log() != want {
				t.Fatalf("%q: Load uses %d bytes, want %d", s, used, len(want))
			}
		}
	}
}

// badLines are lines that no call writes after good, each of which a log with right sums may have all the same.
func badLines() []string {
	return []string{
		"", " ", "begin", "begin ", "begin 3", "begin 3 ", "begin  3 0", "begin 3  0", "begin 3 0 ", " begin 3 0", "begin 3 0 0", "begin\t3 0", "Begin 3 0", "begins 3 0", "begin 3 0\r", "begin 3 0\x00",
		"begin 03 0", "begin 3 00", "begin -0 0", "begin 3 -0", "begin +3 0", "begin 3 +0", "begin 3 0x1", "begin 3 1_0", "begin 3 1.0", "begin 3 x", "begin 3 1e0",
		"begin 7 0", "begin -1 0", "begin 3 4", "begin 3 -1", "begin 9223372036854775807 0", "begin 3 9223372036854775808", "begin 3 -9223372036854775809", "begin 18446744073709551619 0", "begin 3 18446744073709551616",
		"put", "put 3", "put 3 2", "put 3 2 10", "put 3 2 10 ", "put 3 2 10 1", "put 3 2 10 1 0", "put 3 2 10 1 0 5 ", "put 3 2 10 1 0 5 6", "put 3 2 10 0 0 5", "put 3 2 10 0 ", "put 3 2 10 1  0 5", "put 3 2 10 2 0 5", "put 3 2 10 1 0 5 1 6", "put 3 2 10 -1", "put 3 2 10 -1 0 5",
		"put 3 2 10 1 00 5", "put 3 2 10 1 0 05", "put 3 2 10 1 0 -0", "put 3 2 10 01 0 5", "put 3 2 010 1 0 5", "put 3 2 -0 0", "put 3 2 10 -0", "put 3 2 10 00",
		"put 3 2 -1 0", "put 3 2 1099511627777 0", "put 7 2 10 0", "put 3 1 10 0", "put 3 3 10 0", "put 3 0 10 0", "put 3 2 10 2 1 0 1 0", "put 3 2 10 2 1 0 0 0", "put 3 2 10 1 -1 0", "put 3 2 10 1 67108864 0", "put 3 2 10 1 0 1073741825", "put 3 2 10 1 0 -1073741825", "put 3 2 10 1 0 9223372036854775808",
		"put 3 2 10 9223372036854775807", "put 3 2 10 4611686018427387904", "put 3 2 10 -9223372036854775808", "put 3 2 10 9223372036854775808", "put 3 2 10 257" + strings.Repeat(" 0 0", 257),
		"drop", "drop 3", "drop 3 2", "drop 3 2 20 ", "drop 3 2 20 0", "drop 3 2 21", "drop 3 1 20", "drop 3 3 20", "drop 7 2 20", "drop 3 2 -1", "drop 3 2 020", "drop 3 02 20", "drop 03 2 20", "drop  3 2 20",
		"close", "close 3", "close 3 1", "close 3 3", "close 3 0", "close 7 1", "close 3 2 0", "close 3 2 ", "close 03 2", "close 3 02", "close  3 2", "closed 3 2",
		"tag", "tag a", "tag a 0 0 0 1 0 0", "tag a 0 0 0 1 0 0 0 0", "tag a 0 0 0 1 0 0 0 ", "tag a 0 0 0 2 0 0 0", "tag a 0 0 0 3 0 0 0", "tag a 0 0 0 -1 0 0 0", "tag a 0 0 0 01 0 0 0", "tag a 0 0 0 1 0 0 -0", "tag A 0 0 0 1 0 0 0", "tag  0 0 0 1 0 0 0", "tag 0 0 0 1 0 0 0", "tag  a 0 0 0 1 0 0 0", "tag t 0 0 0 1 0 0 0", "tag a  0 0 0 1 0 0 0", "tag a 0 0 0 9223372036854775808 0 0 0",
		"end", "snapshot a 1", "load", "versions 3",
	}
}

// goodLines make a closed version and an open one of the kind 3, and a tag.
func goodLines() []string {
	return []string{"begin 3 0", "put 3 1 20 1 0 5", "close 3 1", "tag t 0 0 0 1 0 0 0", "begin 3 1"}
}

func TestLinesThatNoCallWrites(t *testing.T) {
	good := logOf(goodLines()...)
	want, used := condition.Load(good)
	checkSame(t, "bytes of the good lines", used, len(good))
	for _, bad := range badLines() {
		checkLoad(t, logOf(append(goodLines(), bad)...), want)
		checkLoad(t, logOf(append(goodLines(), bad, "begin 4 0")...), want)
		checkLoad(t, good+bad+"\n", want)
		checkLoad(t, good+bad, want)
	}
	for _, last := range []string{"begin 3 0", "begin 3 2", "put 3 2 10 1 0 5", "put 3 2 20 0", "drop 3 2 20", "close 3 2", "tag a 0 0 0 1 0 0 0", "tag a 0 0 0 0 0 0 0"} {
		text := logOf(append(goodLines(), last)...)
		b, used := condition.Load(text)
		checkSame(t, last, used, len(text))
		checkSame(t, last, b.Log(), text)
	}
}

func TestLinesAfterTheirLimits(t *testing.T) {
	var versions, spans, tags []string
	for i := range 64 {
		versions = append(versions, "begin 3 0")
		spans = append(spans, fmt.Sprintf("put 3 1 %d 0", i))
		tags = append(tags, fmt.Sprintf("tag t%d 0 0 0 0 0 0 0", i))
	}
	spans = append([]string{"begin 3 0"}, spans...)
	for _, x := range []struct {
		lines []string
		bad   string
	}{{versions, "begin 3 0"}, {spans, "put 3 1 64 0"}, {tags, "tag u 0 0 0 0 0 0 0"}} {
		text := logOf(x.lines...)
		b, used := condition.Load(text)
		checkSame(t, x.bad, used, len(text))
		checkLoad(t, logOf(append(slices.Clone(x.lines), x.bad, x.lines[0])...), b)
	}
}

func TestSums(t *testing.T) {
	good := logOf("begin 3 0")
	b, _ := condition.Load(good)
	chained := sumOf(good[len(good)-17:len(good)-1] + "begin 4 0")
	whole, used := condition.Load(good + "begin 4 0 " + chained + "\n")
	checkSame(t, "bytes", used, len(good)+10+17)
	checkSame(t, "versions", whole.Versions(4), 1)
	for _, sum := range []string{
		"", "0", strings.Repeat("0", 16), strings.ToUpper(chained), chained[:15], chained + "0", "0" + chained, " " + chained, chained + " ", chained + "\r",
		sumOf("begin 4 0"), sumOf(strings.Repeat("0", 16) + "begin 4 0"), sumOf(good + "begin 4 0"), sumOf("begin 3 0begin 4 0"), good[len(good)-17 : len(good)-1],
	} {
		checkLoad(t, good+"begin 4 0 "+sum+"\n", b)
		checkLoad(t, good+"begin 4 0 "+sum+"\nbegin 4 0 "+chained+"\n", b)
	}
	checkLoad(t, good+"begin 4 0 "+chained, b)
	checkLoad(t, good+"\nbegin 4 0 "+chained+"\n", b)
	checkLoad(t, good+"begin 4 0  "+chained+"\n", b)
	checkLoad(t, "begin 4 0 "+chained+"\n", condition.New())
}

// A book that is loaded goes on as the one that wrote the log.
func TestLoadedBooksGoOn(t *testing.T) {
	b := sample(t)
	loaded, _ := condition.Load(b.Log() + "begin 0")
	for _, x := range []*condition.Book{b, loaded} {
		begin(t, x, 3, 2, 3)
		put(t, x, 3, 3, 5, 1, 1)
		drop(t, x, 0, 2, 50)
		shut(t, x, 0, 2)
		tag(t, x, "third", 2, 0, 0, 2)
		checkSame(t, "Tag", x.Tag("first", numbers()), api.ErrThere)
	}
	checkSame(t, "view", view(loaded), view(b))
	again, used := condition.Load(b.Log())
	checkSame(t, "bytes", used, len(b.Log()))
	checkSame(t, "view again", view(again), view(b))
}

func TestLoadedBooksAreApart(t *testing.T) {
	text := sample(t).Log()
	a, _ := condition.Load(text)
	b, _ := condition.Load(text)
	before := view(b)
	put(t, a, 0, 2, 60, 1, 1)
	shut(t, a, 0, 2)
	checkSame(t, "view", view(b), before)
}

func TestLongLogs(t *testing.T) {
	for _, text := range []string{
		strings.Repeat("\n", 1000000),
		strings.Repeat(" ", 1000000) + "\n",
		strings.Repeat("begin 3 0", 100000),
		strings.Repeat("begin 3 0\n", 100000),
		logOf(strings.Repeat("put ", 250000)),
		logOf("begin " + strings.Repeat("1", 1000000) + " 0"),
		logOf("tag " + strings.Repeat("a", 1000000) + " 0 0 0 0 0 0 0"),
		logOf("put 3 1 0 1000000" + strings.Repeat(" 1 1", 1000000)),
	} {
		checkLoad(t, text, condition.New())
	}
	lines := []string{"begin 0 0"}
	for i := range 20000 {
		lines = append(lines, fmt.Sprintf("put 0 1 %d 1 %d %d", i%64, i, -i))
	}
	text := logOf(lines...)
	b, used := condition.Load(text)
	checkSame(t, "bytes", used, len(text))
	checkSame(t, "log", b.Log() == text, true)
	checkList(t, b, 0, 1, 10, 19978, -19978)
}
