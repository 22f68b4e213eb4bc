package condition_test

import (
	"fmt"
	"math"
	"strings"
	"testing"

	"hodoscope/api"
	"hodoscope/condition"
)

// P4.7

// listCases returns lists, and whether they are valid.
func listCases() []struct {
	l  []api.Entry
	ok bool
} {
	type list = struct {
		l  []api.Entry
		ok bool
	}
	falling, equal := many(256), many(256)
	falling[255].Key = 507
	equal[255].Key = 508
	return []list{
		{nil, true},
		{[]api.Entry{}, true},
		{entries(0, 0), true},
		{entries(1<<26-1, 0), true},
		{entries(0, 1, 1<<26-1, -1), true},
		{entries(1<<26, 0), false},
		{entries(-1, 0), false},
		{entries(math.MinInt, 0), false},
		{entries(math.MaxInt, 0), false},
		{entries(0, 1<<30), true},
		{entries(0, -1<<30), true},
		{entries(0, 1<<30+1), false},
		{entries(0, -1<<30-1), false},
		{entries(0, math.MinInt), false},
		{entries(0, math.MaxInt), false},
		{entries(1, 5, 2, 5), true},
		{entries(1, 5, 1, 6), false},
		{entries(2, 5, 1, 5), false},
		{entries(0, 5, 3, 5, 3, 5), false},
		{entries(0, 5, 3, 5, 2, 5), false},
		{entries(0, 5, 1<<26, 5), false},
		{entries(0, 5, 1, 1<<30+1), false},
		{many(255), true},
		{many(256), true},
		{many(257), false},
		{many(1000), false},
		{falling, false},
		{equal, false},
	}
}

func TestCheckLists(t *testing.T) {
	for i, x := range listCases() {
		for kind := range api.Kinds {
			s := snapshot("a", 1)
			s.Kinds[kind] = x.l
			checkSame(t, fmt.Sprint("list ", i, " of kind ", kind), condition.Check(s), x.ok)
		}
	}
}

func TestCheckNamesAndTimes(t *testing.T) {
	for _, name := range goodNames() {
		checkSame(t, name, condition.Check(snapshot(name, 0)), true)
	}
	for _, name := range badNames() {
		checkSame(t, fmt.Sprintf("%q", name), condition.Check(snapshot(name, 0)), false)
	}
	for c := range 256 {
		letter := 'a' <= c && c <= 'z'
		first, second := string([]byte{byte(c), 'a'}), string([]byte{'a', byte(c)})
		checkSame(t, first, condition.Check(snapshot(first, 0)), letter)
		checkSame(t, second, condition.Check(snapshot(second, 0)), letter || '0' <= c && c <= '9' || c == '-')
	}
	for _, time := range odd() {
		checkSame(t, time, condition.Check(snapshot("a", time)), 0 <= time && time <= 1<<40)
	}
	checkSame(t, "the zero value", condition.Check(api.Snapshot{}), false)
}

func TestValue(t *testing.T) {
	s := snapshot("a", 1, entries(0, 5, 2, -7, 9, 0), nil, entries(1<<26-1, 1<<30))
	for _, x := range []struct{ kind, key, want int }{
		{0, 0, 5}, {0, 2, -7}, {0, 9, 0}, {0, 1, 77}, {0, 3, 77}, {0, 10, 77}, {0, -1, 77},
		{1, 0, 77}, {1, 2, 77}, {2, 1<<26 - 1, 1 << 30}, {2, 0, 77}, {6, 0, 77},
		{-1, 0, 77}, {7, 0, 77}, {math.MinInt, 0, 77}, {math.MaxInt, 2, 77}, {0, math.MinInt, 77}, {0, math.MaxInt, 77},
	} {
		checkSame(t, x, condition.Value(s, x.kind, x.key, 77), x.want)
	}
	checkSame(t, "another otherwise", condition.Value(s, 1, 0, -3), -3)
	checkSame(t, "the zero value", condition.Value(api.Snapshot{}, 0, 0, 4), 4)
}

func TestValueOfASnapshotThatIsNotValid(t *testing.T) {
	s := snapshot("", -1, entries(5, 1, 3, 2, 5, 3, -4, 1<<60), nil, nil, nil, nil, nil, many(1000))
	for _, x := range []struct{ kind, key, want int }{{0, 5, 1}, {0, 3, 2}, {0, -4, 1 << 60}, {0, 4, 77}, {6, 1998, -999}, {6, 0, 0}, {6, 1999, 77}} {
		checkSame(t, x, condition.Value(s, x.kind, x.key, 77), x.want)
	}
}

func TestValueOfEachKind(t *testing.T) {
	kinds := []int{api.CoPedestal, api.CoNoise, api.CoDead, api.CoShiftX, api.CoShiftY, api.CoField, api.CoGain}
	s := snapshot(strings.Repeat("a", 32), 1<<40)
	for i, kind := range kinds {
		s.Kinds[kind] = entries(3, 100+i)
	}
	checkSame(t, "valid", condition.Check(s), true)
	for i, kind := range kinds {
		checkSame(t, kind, condition.Value(s, i, 3, 0), 100+i)
	}
}
