package condition_test

import (
	"fmt"
	"hash/fnv"
	"math"
	"reflect"
	"slices"
	"strings"
	"testing"

	"hodoscope/api"
	"hodoscope/condition"
)

// entries makes a list of keys and values.
func entries(numbers ...int) []api.Entry {
	var l []api.Entry
	for i := 0; i < len(numbers); i += 2 {
		l = append(l, api.Entry{Key: numbers[i], Value: numbers[i+1]})
	}
	return l
}

// many makes a valid list of n entries.
func many(n int) []api.Entry {
	var l []api.Entry
	for i := range n {
		l = append(l, api.Entry{Key: 2 * i, Value: -i})
	}
	return l
}

// numbers makes the versions of a tag.
func numbers(n ...int) (versions [api.Kinds]int) {
	copy(versions[:], n)
	return versions
}

func snapshot(tag string, time int, lists ...[]api.Entry) api.Snapshot {
	s := api.Snapshot{Tag: tag, Time: time}
	copy(s.Kinds[:], lists)
	return s
}

func sameSnapshot(a, b api.Snapshot) bool {
	for kind, l := range a.Kinds {
		if !slices.Equal(l, b.Kinds[kind]) {
			return false
		}
	}
	return a.Tag == b.Tag && a.Time == b.Time
}

// odd returns numbers at and beyond the ends of the ranges.
func odd() []int {
	l := []int{math.MinInt, math.MinInt + 1, math.MaxInt - 1, math.MaxInt, -1, 0, 1, 2, 6, 7}
	for _, n := range []int{api.MaxVersions, api.MaxEntries, 1 << 26, api.MaxValue, api.MaxTime} {
		l = append(l, -n-1, -n, n-1, n, n+1)
	}
	return l
}

// names that are not valid.
func badNames() []string {
	return []string{"", "A", "T", "0", "9a", "-", "-a", " ", " a", "a ", "a b", "a_b", "a.b", "aB", "a\n", "\na", "a\x00", "\x00", "é", "aé", "a\xff", "\xe9", "`", "{", "a`", "a{", "a/", "a:", "a,", "\u0161b", strings.Repeat("a", 33), strings.Repeat("a", 1000)}
}

func goodNames() []string {
	return []string{"a", "z", "a-", "a0", "z9", "t", "run-2026", "a--", "abcdefghijklmnopqrstuvwxyz-01234", "end", "begin", strings.Repeat("z", 32)}
}

// checkSame checks values that can be compared with ==.
func checkSame(t *testing.T, what, got, want any) {
	t.Helper()
	if got != want {
		t.Errorf("%v: %v, want %v", what, got, want)
	}
}

// checkFails checks the error, which is the last of the results, and that the others are zero values; lists may be empty.
func checkFails(t *testing.T, what any, want api.Errno, results ...any) {
	t.Helper()
	last := len(results) - 1
	if results[last] != want {
		t.Errorf("%v: error %v, want %d", what, results[last], want)
	}
	checkNothing(t, what, results[:last]...)
}

// checkNothing checks that all results are zero values; lists may be empty.
func checkNothing(t *testing.T, what any, results ...any) {
	t.Helper()
	for _, r := range results {
		v := reflect.ValueOf(r)
		if v.Kind() == reflect.Slice && v.Len() > 0 || v.Kind() != reflect.Slice && !v.IsZero() {
			t.Errorf("%v: there is no value, but %v", what, r)
		}
	}
}

// results makes a list of what a call returns.
func results(l ...any) []any { return l }

func begin(t *testing.T, b *condition.Book, kind, from, want int) {
	t.Helper()
	if version, e := b.Begin(kind, from); version != want || e != api.OK {
		t.Fatalf("Begin(%d, %d): %d, error %d, want %d", kind, from, version, e, want)
	}
}

func put(t *testing.T, b *condition.Book, kind, version, time int, numbers ...int) {
	t.Helper()
	if e := b.Put(kind, version, time, entries(numbers...)); e != api.OK {
		t.Fatalf("Put(%d, %d, %d, %v): error %d", kind, version, time, numbers, e)
	}
}

func drop(t *testing.T, b *condition.Book, kind, version, time int) {
	t.Helper()
	if e := b.Drop(kind, version, time); e != api.OK {
		t.Fatalf("Drop(%d, %d, %d): error %d", kind, version, time, e)
	}
}

func shut(t *testing.T, b *condition.Book, kind, version int) {
	t.Helper()
	if e := b.Close(kind, version); e != api.OK {
		t.Fatalf("Close(%d, %d): error %d", kind, version, e)
	}
}

func tag(t *testing.T, b *condition.Book, name string, versions ...int) {
	t.Helper()
	if e := b.Tag(name, numbers(versions...)); e != api.OK {
		t.Fatalf("Tag(%s, %v): error %d", name, versions, e)
	}
}

func checkSpans(t *testing.T, b *condition.Book, kind, version int, want ...int) {
	t.Helper()
	if l := b.Spans(kind, version); !slices.Equal(l, want) {
		t.Errorf("Spans(%d, %d): %v, want %v", kind, version, l, want)
	}
}

func checkList(t *testing.T, b *condition.Book, kind, version, time int, numbers ...int) {
	t.Helper()
	if l, there := b.List(kind, version, time); !there || !slices.Equal(l, entries(numbers...)) {
		t.Errorf("List(%d, %d, %d): %v, %v, want %v", kind, version, time, l, there, numbers)
	}
}

func checkNoList(t *testing.T, b *condition.Book, kind, version, time int) {
	t.Helper()
	if l, there := b.List(kind, version, time); there || len(l) > 0 {
		t.Errorf("List(%d, %d, %d): %v, %v, want nothing", kind, version, time, l, there)
	}
}

func checkResolve(t *testing.T, b *condition.Book, want api.Snapshot) {
	t.Helper()
	s, e := b.Resolve(want.Tag, want.Time)
	if e != api.OK || !sameSnapshot(s, want) {
		t.Errorf("Resolve(%s, %d): %v, error %d, want %v", want.Tag, want.Time, s, e, want)
	}
	if !condition.Check(s) {
		t.Errorf("Resolve(%s, %d) is not valid", want.Tag, want.Time)
	}
}

// view is all that a book shows.
func view(b *condition.Book) string {
	var s strings.Builder
	for kind := range api.Kinds {
		fmt.Fprintln(&s, "kind", kind, b.Versions(kind))
		for v := range b.Versions(kind) + 2 {
			times := b.Spans(kind, v)
			fmt.Fprintln(&s, "version", v, b.Closed(kind, v), times)
			for _, time := range append(times, 0, api.MaxTime) {
				fmt.Fprintln(&s, results(b.List(kind, v, time))...)
			}
		}
	}
	for _, name := range b.Tags() {
		times, e := b.Changes(name)
		fmt.Fprintln(&s, "tag", name, times, e)
		fmt.Fprintln(&s, results(b.Tagged(name))...)
		for _, time := range append(times, 0, api.MaxTime) {
			fmt.Fprintln(&s, results(b.Resolve(name, time))...)
		}
	}
	return s.String() + b.Log()
}

// checkKeeps checks that calls leave a book as it is.
func checkKeeps(t *testing.T, b *condition.Book, do func()) {
	t.Helper()
	before := view(b)
	do()
	if after := view(b); after != before {
		t.Errorf("the book has changed:\n%s\nbefore:\n%s", after, before)
	}
}

// sumOf is the hexadecimal form of the digest of a string.
func sumOf(s string) string {
	h := fnv.New64a()
	h.Write([]byte(s))
	return fmt.Sprintf("%016x", h.Sum64())
}

// logOf makes a log of lines that do not have their sums yet, whatever they are.
func logOf(lines ...string) string {
	var log strings.Builder
	sum := strings.Repeat("0", 16)
	for _, line := range lines {
		sum = sumOf(sum + line)
		log.WriteString(line + " " + sum + "\n")
	}
	return log.String()
}

// sample is a book with versions of several kinds, open and closed ones, and two tags.
func sample(t *testing.T) *condition.Book {
	t.Helper()
	b := condition.New()
	begin(t, b, 0, 0, 1)
	put(t, b, 0, 1, 0, 0, 100, 511, 101)
	put(t, b, 0, 1, 50, 0, 110)
	begin(t, b, 3, 0, 1)
	put(t, b, 3, 1, 20, 0, 7, 1, -2)
	put(t, b, 3, 1, 10, 0, 5)
	put(t, b, 3, 1, 30)
	shut(t, b, 3, 1)
	shut(t, b, 0, 1)
	tag(t, b, "first", 1, 0, 0, 1)
	begin(t, b, 3, 1, 2)
	drop(t, b, 3, 2, 20)
	put(t, b, 3, 2, api.MaxTime, 1<<26-1, api.MaxValue)
	begin(t, b, 6, 0, 1)
	shut(t, b, 6, 1)
	shut(t, b, 3, 2)
	tag(t, b, "second-2", 1, 0, 0, 2, 0, 0, 1)
	begin(t, b, 0, 1, 2)
	put(t, b, 0, 2, 25, 8, -api.MaxValue)
	return b
}

// sampleLines are the lines of the sample's log without their sums.
func sampleLines() []string {
	return []string{
		"begin 0 0",
		"put 0 1 0 2 0 100 511 101",
		"put 0 1 50 1 0 110",
		"begin 3 0",
		"put 3 1 20 2 0 7 1 -2",
		"put 3 1 10 1 0 5",
		"put 3 1 30 0",
		"close 3 1",
		"close 0 1",
		"tag first 1 0 0 1 0 0 0",
		"begin 3 1",
		"drop 3 2 20",
		"put 3 2 1099511627776 1 67108863 1073741824",
		"begin 6 0",
		"close 6 1",
		"close 3 2",
		"tag second-2 1 0 0 2 0 0 1",
		"begin 0 1",
		"put 0 2 25 1 8 -1073741824",
	}
}
