package condition_test

import (
	"fmt"
	"slices"
	"testing"

	"hodoscope/api"
	"hodoscope/condition"
)

// R3, R4 and P0.1: what holds for all functions.

// checkNoBook checks what the methods of something return that is no book.
func checkNoBook(t *testing.T, b *condition.Book) {
	t.Helper()
	checkFails(t, "Begin", api.ErrNil, results(b.Begin(0, 0))...)
	checkFails(t, "Begin of no kind", api.ErrNil, results(b.Begin(-1, 9))...)
	checkFails(t, "Put", api.ErrNil, b.Put(0, 1, 0, nil))
	checkFails(t, "Put of no kind", api.ErrNil, b.Put(7, 1, -1, many(300)))
	checkFails(t, "Drop", api.ErrNil, b.Drop(0, 1, 0))
	checkFails(t, "Drop of no kind", api.ErrNil, b.Drop(7, 1, -1))
	checkFails(t, "Close", api.ErrNil, b.Close(0, 1))
	checkFails(t, "Close of no kind", api.ErrNil, b.Close(7, 1))
	checkFails(t, "Tag", api.ErrNil, b.Tag("a", numbers()))
	checkFails(t, "Tag of no name", api.ErrNil, b.Tag("", numbers(-1)))
	checkFails(t, "Resolve", api.ErrNil, results(b.Resolve("first", 0))...)
	checkFails(t, "Resolve at no time", api.ErrNil, results(b.Resolve("", -1))...)
	checkFails(t, "Changes", api.ErrNil, results(b.Changes("first"))...)
	checkNothing(t, "Versions", b.Versions(3), b.Versions(-1))
	checkNothing(t, "Closed", b.Closed(3, 1))
	checkNothing(t, "Spans", b.Spans(3, 1))
	checkNothing(t, "List", results(b.List(3, 1, 10))...)
	checkNothing(t, "Tags", b.Tags())
	checkNothing(t, "Tagged", results(b.Tagged("first"))...)
	checkNothing(t, "Log", b.Log())
}

func TestWhatIsNoBook(t *testing.T) {
	checkNoBook(t, nil)
	checkNoBook(t, &condition.Book{})
	checkNoBook(t, new(condition.Book))
}

// A copy is no object that New or Load returned; using it leaves the book as it is.
func TestACopyIsNoBook(t *testing.T) {
	b := sample(t)
	checkKeeps(t, b, func() {
		twin := *b
		checkNoBook(t, &twin)
	})
	begin(t, b, 3, 0, 3)
}

// roomy returns a list with memory beyond its end.
func roomy(l []api.Entry) []api.Entry {
	return append(slices.Clone(l), entries(-5, -5, -6, -6)...)[:len(l)]
}

// spoil overwrites the memory of a result or an argument.
func spoil(x any) {
	switch x := x.(type) {
	case []int:
		for i := range x[:cap(x)] {
			x[:cap(x)][i] = -77
		}
	case []string:
		for i := range x[:cap(x)] {
			x[:cap(x)][i] = "spoilt"
		}
	case []api.Entry:
		for i := range x[:cap(x)] {
			x[:cap(x)][i] = api.Entry{Key: -77, Value: -77}
		}
	case api.Snapshot:
		for _, l := range x.Kinds {
			spoil(l)
		}
	}
}

func TestPutKeepsNoArgument(t *testing.T) {
	b := condition.New()
	begin(t, b, 3, 0, 1)
	for time := range 5 {
		l := roomy(entries(0, 5, 1, -2))
		before := slices.Clone(l[:cap(l)])
		checkSame(t, "Put", b.Put(3, 1, time%3, l), api.OK)
		checkSame(t, "the argument is unchanged", slices.Equal(l[:cap(l)], before), true)
		spoil(l)
	}
	for time := range 3 {
		checkList(t, b, 3, 1, time, 0, 5, 1, -2)
	}
	checkSame(t, "log", b.Log()[:len("begin 3 0 ")], "begin 3 0 ")
}

// queries are the calls that change nothing.
func queries(b *condition.Book) map[string]func() []any {
	return map[string]func() []any{
		"Spans":            func() []any { return results(b.Spans(3, 1), b.Spans(3, 1), b.Spans(3, 2)) },
		"List":             func() []any { return results(b.List(3, 1, 25)) },
		"List, twice":      func() []any { return append(results(b.List(0, 1, 25)), results(b.List(0, 2, 25))...) },
		"Lists of copies":  func() []any { return append(results(b.List(3, 1, 10)), results(b.List(3, 2, 10))...) },
		"Tags":             func() []any { return results(b.Tags()) },
		"Tagged":           func() []any { return results(b.Tagged("second-2")) },
		"Resolve":          func() []any { return results(b.Resolve("first", 25)) },
		"Resolve, twice":   func() []any { return append(results(b.Resolve("first", 25)), results(b.Resolve("second-2", 25))...) },
		"Changes":          func() []any { return results(b.Changes("first")) },
		"Changes, the end": func() []any { return results(b.Changes("second-2")) },
		"Read":             func() []any { return results(condition.Read("snapshot a 1\n0 1 2\n0 2 2\n6 3 4\nend\n")) },
		"Log and Versions": func() []any { return results(b.Log(), b.Versions(3), b.Closed(3, 1)) },
		"Digest and Hex":   func() []any { return results(condition.Digest("abc"), condition.Hex(77)) },
	}
}

func TestResultsAreNewMemory(t *testing.T) {
	b := sample(t)
	for name, query := range queries(b) {
		checkKeeps(t, b, func() {
			got := query()
			text := fmt.Sprint(got...)
			again := query()
			for i, x := range got {
				rest := fmt.Sprint(got[i+1:]...)
				spoil(x)
				checkSame(t, name+": a later result", fmt.Sprint(got[i+1:]...), rest)
			}
			checkSame(t, name+", an earlier call", fmt.Sprint(again...), text)
			checkSame(t, name+", a later call", fmt.Sprint(query()...), text)
		})
	}
}

// The lists of one snapshot share no memory.
func TestListsOfASnapshotAreApart(t *testing.T) {
	b := condition.New()
	for kind := range api.Kinds {
		begin(t, b, kind, 0, 1)
		put(t, b, kind, 1, 0, 1, 1, 2, 2)
		shut(t, b, kind, 1)
	}
	tag(t, b, "all", 1, 1, 1, 1, 1, 1, 1)
	resolved, _ := b.Resolve("all", 0)
	read, _ := condition.Read(condition.Print(resolved))
	for _, s := range []api.Snapshot{resolved, read} {
		for kind := range api.Kinds {
			for other := kind; other < api.Kinds; other++ {
				checkSame(t, fmt.Sprint(kind, other), slices.Equal(s.Kinds[other], entries(1, 1, 2, 2)), true)
			}
			spoil(s.Kinds[kind])
			_ = append(s.Kinds[kind], entries(9, 9, 9, 9)...)
		}
	}
	checkResolve(t, b, snapshot("all", 0, entries(1, 1, 2, 2), entries(1, 1, 2, 2), entries(1, 1, 2, 2), entries(1, 1, 2, 2), entries(1, 1, 2, 2), entries(1, 1, 2, 2), entries(1, 1, 2, 2)))
}

func TestSnapshotsAreOnlyRead(t *testing.T) {
	s := snapshot("a", 1, roomy(entries(1, 2, 3, 4)), nil, roomy(entries(5, 6)))
	full := func() string { return fmt.Sprint(s.Kinds[0][:cap(s.Kinds[0])], s.Kinds[2][:cap(s.Kinds[2])], s) }
	before := full()
	condition.Check(s)
	condition.Value(s, 0, 3, 0)
	condition.Value(s, 2, 9, 0)
	condition.Print(s)
	checkSame(t, "the snapshot", full(), before)
}

func TestEmptyListsAreNil(t *testing.T) {
	a, b := snapshot("a", 1), snapshot("a", 1)
	for kind := range b.Kinds {
		b.Kinds[kind] = []api.Entry{}
	}
	checkSame(t, "Check", condition.Check(a), condition.Check(b))
	checkSame(t, "Print", condition.Print(a), condition.Print(b))
	checkSame(t, "Value", condition.Value(a, 0, 0, 3), condition.Value(b, 0, 0, 3))
	x, y := condition.New(), condition.New()
	begin(t, x, 0, 0, 1)
	begin(t, y, 0, 0, 1)
	checkSame(t, "Put of nil", x.Put(0, 1, 5, nil), api.OK)
	checkSame(t, "Put of an empty list", y.Put(0, 1, 5, []api.Entry{}), api.OK)
	checkSame(t, "views", view(x), view(y))
}

// Each call with odd numbers returns, and the same one when it is made again of a book that is the same.
func TestOddNumbers(t *testing.T) {
	var l []string
	for range 2 {
		b := sample(t)
		text := ""
		for _, n := range odd() {
			for _, kind := range []int{3, n} {
				for _, version := range []int{1, 2, n} {
					text += fmt.Sprintln(b.Put(kind, version, n, entries(n, n)), b.Drop(kind, version, n))
					text += fmt.Sprintln(results(b.List(kind, version, n))...)
					text += fmt.Sprintln(b.Spans(kind, version), b.Closed(kind, version), b.Versions(kind))
				}
				text += fmt.Sprintln(results(b.Begin(kind, n))...)
			}
			text += fmt.Sprintln(b.Tag("a", numbers(n, n, n, n, n, n, n)))
			text += fmt.Sprintln(results(b.Resolve("first", n))...)
			s := snapshot("a", n, entries(n, n))
			text += fmt.Sprintln(condition.Check(s), condition.Print(s), condition.Value(s, n, n, n))
		}
		l = append(l, text+view(b))
	}
	checkSame(t, "the second time", l[1], l[0])
}
