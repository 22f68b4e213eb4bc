package condition_test

import (
	"fmt"
	"math"
	"math/rand"
	"slices"
	"strings"
	"testing"

	"hodoscope/api"
	"hodoscope/condition"
)

// P4.8, P4.13

// texts returns snapshots and their texts.
func texts() map[string]api.Snapshot {
	return map[string]api.Snapshot{
		"snapshot a 0\nend\n":                                                   snapshot("a", 0),
		"snapshot end 1099511627776\nend\n":                                     snapshot("end", 1<<40),
		"snapshot t 15\n3 0 5\nend\n":                                           snapshot("t", 15, nil, nil, nil, entries(0, 5)),
		"snapshot a-1 7\n0 0 0\n0 3 -4\n6 1 2\nend\n":                           snapshot("a-1", 7, entries(0, 0, 3, -4), nil, nil, nil, nil, nil, entries(1, 2)),
		"snapshot snapshot 1\n2 67108863 1\nend\n":                              snapshot("snapshot", 1, nil, nil, entries(1<<26-1, 1)),
		"snapshot a 1\n1 9 1073741824\nend\n":                                   snapshot("a", 1, nil, entries(9, 1<<30)),
		"snapshot a 1\n1 9 -1073741824\n2 0 0\nend\n":                           snapshot("a", 1, nil, entries(9, -1<<30), entries(0, 0)),
		"snapshot a 10\n0 5 1\n1 4 1\n2 3 1\n3 2 1\n4 1 1\n5 0 1\n6 0 0\nend\n": snapshot("a", 10, entries(5, 1), entries(4, 1), entries(3, 1), entries(2, 1), entries(1, 1), entries(0, 1), entries(0, 0)),
	}
}

func TestPrintAndRead(t *testing.T) {
	for text, want := range texts() {
		checkSame(t, "Print", condition.Print(want), text)
		if s, e := condition.Read(text); e != api.OK || !sameSnapshot(s, want) {
			t.Errorf("Read(%q): %v, error %d, want %v", text, s, e, want)
		}
	}
}

func TestReadOfPrint(t *testing.T) {
	r := rand.New(rand.NewSource(3))
	for range 200 {
		s := snapshot("run-7", r.Intn(1<<41)%(1<<40+1))
		for kind := range s.Kinds {
			key := -1
			for range r.Intn(5) {
				key += 1 + r.Intn(1000)
				s.Kinds[kind] = append(s.Kinds[kind], api.Entry{Key: key, Value: r.Intn(1<<31+1) - 1<<30})
			}
		}
		if back, e := condition.Read(condition.Print(s)); e != api.OK || !sameSnapshot(back, s) {
			t.Fatalf("%v: %v, error %d", s, back, e)
		}
	}
	full := snapshot("full", 0)
	for kind := range full.Kinds {
		full.Kinds[kind] = many(256)
	}
	text := condition.Print(full)
	checkSame(t, "lines", strings.Count(text, "\n"), 7*256+2)
	if back, e := condition.Read(text); e != api.OK || !sameSnapshot(back, full) {
		t.Error("the largest snapshot is not read again:", e)
	}
	checkFails(t, "one entry more", api.ErrForm, results(condition.Read(strings.Replace(text, "end\n", "6 600 0\nend\n", 1)))...)
}

func TestPrintRefuses(t *testing.T) {
	for _, name := range badNames() {
		checkSame(t, fmt.Sprintf("%q", name), condition.Print(snapshot(name, 0)), "")
	}
	for _, time := range odd() {
		checkSame(t, time, condition.Print(snapshot("a", time)) == "", time < 0 || time > 1<<40)
	}
	for i, x := range listCases() {
		for kind := range api.Kinds {
			s := snapshot("a", 1)
			s.Kinds[kind] = x.l
			checkSame(t, i, condition.Print(s) != "", x.ok)
		}
	}
}

func TestReadRefuses(t *testing.T) {
	for _, text := range []string{
		"", "\n", "end\n", "snapshot\nend\n", "snapshot a\nend\n", "snapshot a 1", "snapshot a 1\n", "snapshot a 1\nend", "snapshot a 1 end\n",
		"snapshot a 1\n\nend\n", "snapshot a 1\nend\n\n", "snapshot a 1\nend\nend\n", "snapshot a 1\nend\n0 0 0\n", "snapshot a 1\nend\n ", "snapshot a 1\nend \n", "snapshot a 1\n end\n", "snapshot a 1\nEnd\n",
		"\nsnapshot a 1\nend\n", " snapshot a 1\nend\n", "snapshots a 1\nend\n", "Snapshot a 1\nend\n", "snapshot  a 1\nend\n", "snapshot a  1\nend\n", "snapshot a 1 \nend\n", "snapshot a 1 2\nend\n", "snapshot\ta 1\nend\n", "snapshot a 1\r\nend\r\n",
		"snapshot A 1\nend\n", "snapshot 1 1\nend\n", "snapshot - 1\nend\n", "snapshot  1\nend\n", "snapshot a_b 1\nend\n", "snapshot " + strings.Repeat("a", 33) + " 1\nend\n",
		"snapshot a -1\nend\n", "snapshot a 01\nend\n", "snapshot a +1\nend\n", "snapshot a -0\nend\n", "snapshot a 1099511627777\nend\n", "snapshot a 9223372036854775808\nend\n", "snapshot a 18446744073709551616\nend\n", "snapshot a 0x1\nend\n", "snapshot a 1_0\nend\n", "snapshot a x\nend\n", "snapshot a 1.0\nend\n",
		"snapshot a 1\n3 0 5\n", "snapshot a 1\n3 0 5\nend", "snapshot a 1\n3 0 5end\n", "snapshot a 1\n3 0\nend\n", "snapshot a 1\n3\nend\n", "snapshot a 1\n3 0 5 6\nend\n", "snapshot a 1\n3 0 5 \nend\n", "snapshot a 1\n 3 0 5\nend\n", "snapshot a 1\n3  0 5\nend\n", "snapshot a 1\n3 0  5\nend\n",
		"snapshot a 1\n3 0 5\n2 0 5\nend\n", "snapshot a 1\n6 0 5\n0 0 5\nend\n", "snapshot a 1\n3 0 5\n4 0 5\n3 1 5\nend\n", "snapshot a 1\n3 1 5\n3 0 5\nend\n", "snapshot a 1\n3 1 5\n3 1 5\nend\n", "snapshot a 1\n3 1 5\n3 1 6\nend\n",
		"snapshot a 1\n-1 0 5\nend\n", "snapshot a 1\n7 0 5\nend\n", "snapshot a 1\n9223372036854775807 0 5\nend\n", "snapshot a 1\n-9223372036854775808 0 5\nend\n", "snapshot a 1\n03 0 5\nend\n", "snapshot a 1\n-0 0 5\nend\n", "snapshot a 1\n+3 0 5\nend\n",
		"snapshot a 1\n3 -1 5\nend\n", "snapshot a 1\n3 67108864 5\nend\n", "snapshot a 1\n3 00 5\nend\n", "snapshot a 1\n3 -0 5\nend\n",
		"snapshot a 1\n3 0 1073741825\nend\n", "snapshot a 1\n3 0 -1073741825\nend\n", "snapshot a 1\n3 0 05\nend\n", "snapshot a 1\n3 0 -0\nend\n", "snapshot a 1\n3 0 -05\nend\n", "snapshot a 1\n3 0 9223372036854775808\nend\n", "snapshot a 1\n3 0 5\x00\nend\n",
	} {
		checkFails(t, fmt.Sprintf("%q", text), api.ErrForm, results(condition.Read(text))...)
	}
}

// Each text that Read accepts is the one that Print writes.
func TestChangedTexts(t *testing.T) {
	for text := range texts() {
		for i := range len(text) {
			for c := range 256 {
				checkReadIsExact(t, text[:i]+string([]byte{byte(c)})+text[i+1:])
				checkReadIsExact(t, text[:i]+string([]byte{byte(c)})+text[i:])
			}
			checkReadIsExact(t, text[:i]+text[i+1:])
			checkFails(t, text[:i], api.ErrForm, results(condition.Read(text[:i]))...)
		}
	}
}

func checkReadIsExact(t *testing.T, text string) {
	t.Helper()
	s, e := condition.Read(text)
	switch e {
	case api.OK:
		if condition.Print(s) != text {
			t.Fatalf("%q is read as %v", text, s)
		}
	case api.ErrForm:
		checkNothing(t, text, s)
	default:
		t.Fatalf("%q: error %d", text, e)
	}
}

func TestLongTexts(t *testing.T) {
	for _, text := range []string{
		strings.Repeat("snapshot a 1\n", 100000),
		"snapshot a 1\n" + strings.Repeat("3 0 5\n", 100000) + "end\n",
		"snapshot " + strings.Repeat("a", 1000000) + " 1\nend\n",
		"snapshot a " + strings.Repeat("1", 1000000) + "\nend\n",
		"snapshot a 1\n" + strings.Repeat(" ", 1000000) + "\nend\n",
		strings.Repeat("\n", 1000000),
	} {
		checkFails(t, text[:20], api.ErrForm, results(condition.Read(text))...)
	}
}

func TestOddEntriesArePrintedAndRead(t *testing.T) {
	l := slices.DeleteFunc(odd(), func(n int) bool { return n == math.MinInt || n == math.MaxInt })
	for _, key := range l {
		for _, value := range l {
			s := snapshot("a", 1, entries(key, value))
			text := fmt.Sprintf("snapshot a 1\n0 %d %d\nend\n", key, value)
			back, e := condition.Read(text)
			if !condition.Check(s) {
				checkFails(t, text, api.ErrForm, back, e)
				continue
			}
			checkSame(t, "Print", condition.Print(s), text)
			checkSame(t, text, sameSnapshot(back, s) && e == api.OK, true)
		}
	}
}
