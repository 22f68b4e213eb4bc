package condition_test

import (
	"fmt"
	"math"
	"testing"

	"hodoscope/api"
	"hodoscope/condition"
)

// P4.1, P4.2, P4.4

func TestNewBook(t *testing.T) {
	b := condition.New()
	for _, kind := range odd() {
		for _, version := range odd() {
			checkNothing(t, kind, b.Versions(kind), b.Closed(kind, version), b.Spans(kind, version))
			checkNothing(t, kind, results(b.List(kind, version, 0))...)
		}
	}
	checkNothing(t, "tags and log", b.Tags(), b.Log())
	checkNothing(t, "a tag", results(b.Tagged("a"))...)
	other := condition.New()
	begin(t, other, 0, 0, 1)
	checkSame(t, "versions of the first book", b.Versions(0), 0)
}

func TestBeginNumbersEachKind(t *testing.T) {
	b := condition.New()
	for kind := range api.Kinds {
		for i := range kind + 1 {
			checkSame(t, "before", b.Versions(kind), i)
			begin(t, b, kind, i, i+1)
			checkSame(t, "after", b.Versions(kind), i+1)
			checkSame(t, "closed", b.Closed(kind, i+1), false)
			checkSpans(t, b, kind, i+1)
		}
	}
	for kind := range api.Kinds {
		checkSame(t, kind, b.Versions(kind), kind+1)
	}
}

func TestBeginRefuses(t *testing.T) {
	b := condition.New()
	begin(t, b, 2, 0, 1)
	begin(t, b, 2, 0, 2)
	begin(t, b, 5, 0, 1)
	for _, x := range []struct {
		kind, from int
		e          api.Errno
	}{
		{-1, 0, api.ErrArg}, {7, 0, api.ErrArg}, {math.MinInt, 0, api.ErrArg}, {math.MaxInt, 0, api.ErrArg},
		{-1, 1, api.ErrArg}, {7, -1, api.ErrArg}, {2, -1, api.ErrNone}, {2, 3, api.ErrNone}, {5, 2, api.ErrNone},
		{0, 1, api.ErrNone}, {6, 1, api.ErrNone}, {2, math.MinInt, api.ErrNone}, {2, math.MaxInt, api.ErrNone},
	} {
		checkKeeps(t, b, func() { checkFails(t, x, x.e, results(b.Begin(x.kind, x.from))...) })
	}
}

func TestBeginFromAVersion(t *testing.T) {
	b := condition.New()
	begin(t, b, 3, 0, 1)
	put(t, b, 3, 1, 20, 0, 7)
	put(t, b, 3, 1, 10, 0, 5, 1, 6)
	begin(t, b, 3, 1, 2)
	shut(t, b, 3, 1)
	begin(t, b, 3, 1, 3)
	begin(t, b, 3, 0, 4)
	begin(t, b, 3, 4, 5)
	for version := 2; version <= 3; version++ {
		checkSame(t, version, b.Closed(3, version), false)
		checkSpans(t, b, 3, version, 10, 20)
		checkList(t, b, 3, version, 10, 0, 5, 1, 6)
		checkList(t, b, 3, version, 20, 0, 7)
	}
	checkSpans(t, b, 3, 4)
	checkSpans(t, b, 3, 5)
	checkSame(t, "closed", b.Closed(3, 1), true)
}

func TestVersionsDoNotShareSpans(t *testing.T) {
	b := condition.New()
	begin(t, b, 3, 0, 1)
	put(t, b, 3, 1, 10, 0, 5)
	put(t, b, 3, 1, 20, 0, 7)
	begin(t, b, 3, 1, 2)
	begin(t, b, 3, 2, 3)
	put(t, b, 3, 1, 10, 0, 1)
	put(t, b, 3, 2, 15, 0, 2)
	drop(t, b, 3, 2, 10)
	put(t, b, 3, 3, 30, 0, 3)
	drop(t, b, 3, 3, 20)
	checkSpans(t, b, 3, 1, 10, 20)
	checkSpans(t, b, 3, 2, 15, 20)
	checkSpans(t, b, 3, 3, 10, 30)
	checkList(t, b, 3, 1, 10, 0, 1)
	checkList(t, b, 3, 1, 20, 0, 7)
	checkList(t, b, 3, 2, 15, 0, 2)
	checkList(t, b, 3, 2, 20, 0, 7)
	checkList(t, b, 3, 3, 10, 0, 5)
	checkList(t, b, 3, 3, 30, 0, 3)
}

func TestMaxVersions(t *testing.T) {
	b := condition.New()
	for i := range 64 {
		begin(t, b, 6, i, i+1)
	}
	for _, x := range []struct {
		kind, from int
		e          api.Errno
	}{{6, 0, api.ErrFull}, {6, 64, api.ErrFull}, {6, 1, api.ErrFull}, {6, 65, api.ErrNone}, {6, -1, api.ErrNone}, {7, 0, api.ErrArg}} {
		checkKeeps(t, b, func() { checkFails(t, x, x.e, results(b.Begin(x.kind, x.from))...) })
	}
	checkSame(t, "versions", b.Versions(6), 64)
	put(t, b, 6, 64, 0, 1, 1)
	shut(t, b, 6, 64)
	checkFails(t, "still full", api.ErrFull, results(b.Begin(6, 0))...)
	begin(t, b, 5, 0, 1)
}

func TestPutAndList(t *testing.T) {
	b := condition.New()
	begin(t, b, 1, 0, 1)
	checkNoList(t, b, 1, 1, 0)
	checkNoList(t, b, 1, 1, 1<<40)
	put(t, b, 1, 1, 10, 3, 4)
	put(t, b, 1, 1, 30)
	put(t, b, 1, 1, 20, 5, 6, 7, 8)
	checkSpans(t, b, 1, 1, 10, 20, 30)
	for _, time := range []int{0, 9, -1, math.MinInt} {
		checkNoList(t, b, 1, 1, time)
	}
	checkList(t, b, 1, 1, 10, 3, 4)
	checkList(t, b, 1, 1, 11, 3, 4)
	checkList(t, b, 1, 1, 19, 3, 4)
	checkList(t, b, 1, 1, 20, 5, 6, 7, 8)
	checkList(t, b, 1, 1, 29, 5, 6, 7, 8)
	checkList(t, b, 1, 1, 30)
	checkList(t, b, 1, 1, 1<<40)
	put(t, b, 1, 1, 20, 9, 9)
	put(t, b, 1, 1, 0, 1, 1)
	put(t, b, 1, 1, 1<<40, 2, 2)
	checkSpans(t, b, 1, 1, 0, 10, 20, 30, 1<<40)
	checkList(t, b, 1, 1, 0, 1, 1)
	checkList(t, b, 1, 1, 25, 9, 9)
	checkList(t, b, 1, 1, 1<<40-1)
	checkList(t, b, 1, 1, 1<<40, 2, 2)
	// List looks for the greatest span that is not above the time, whatever the time is.
	checkList(t, b, 1, 1, 1<<40+1, 2, 2)
	checkList(t, b, 1, 1, math.MaxInt, 2, 2)
	checkNoList(t, b, 1, 2, 20)
	checkNoList(t, b, 1, 0, 20)
	checkNoList(t, b, 2, 1, 20)
}

func TestPutRanges(t *testing.T) {
	b := condition.New()
	begin(t, b, 4, 0, 1)
	for i, x := range listCases() {
		if x.ok {
			checkSame(t, fmt.Sprint("list ", i), b.Put(4, 1, 5, x.l), api.OK)
			if l, there := b.List(4, 1, 5); fmt.Sprint(l) != fmt.Sprint(x.l) || !there {
				t.Error("list", i, "is", l, there)
			}
			continue
		}
		checkKeeps(t, b, func() { checkSame(t, fmt.Sprint("list ", i), b.Put(4, 1, 5, x.l), api.ErrArg) })
	}
	for _, time := range odd() {
		want := api.OK
		if time < 0 || time > 1<<40 {
			want = api.ErrArg
		}
		checkSame(t, time, b.Put(4, 1, time, nil), want)
	}
}

func TestErrorsOfPut(t *testing.T) {
	b := condition.New()
	begin(t, b, 4, 0, 1)
	begin(t, b, 4, 0, 2)
	shut(t, b, 4, 2)
	good, bad := entries(1, 1), entries(1, 1, 1, 1)
	for _, x := range []struct {
		kind, version, time int
		l                   []api.Entry
		e                   api.Errno
	}{
		{-1, 1, 0, good, api.ErrArg}, {7, 1, 0, good, api.ErrArg}, {4, 1, -1, good, api.ErrArg}, {4, 1, 1<<40 + 1, good, api.ErrArg}, {4, 1, 0, bad, api.ErrArg},
		{7, 9, 0, good, api.ErrArg}, {4, 9, -1, good, api.ErrArg}, {4, 9, 0, bad, api.ErrArg},
		{4, 2, -1, good, api.ErrArg}, {4, 2, 0, bad, api.ErrArg},
		{4, 0, 0, good, api.ErrNone}, {4, 3, 0, good, api.ErrNone}, {4, -1, 0, good, api.ErrNone}, {3, 1, 0, good, api.ErrNone}, {4, math.MaxInt, 0, good, api.ErrNone},
		{4, 2, 0, good, api.ErrState},
	} {
		checkKeeps(t, b, func() { checkSame(t, x, b.Put(x.kind, x.version, x.time, x.l), x.e) })
	}
}

func TestMaxSpans(t *testing.T) {
	b := condition.New()
	begin(t, b, 0, 0, 1)
	for i := range 64 {
		put(t, b, 0, 1, 10*((i*37)%64), 0, i)
	}
	checkSame(t, "spans", len(b.Spans(0, 1)), 64)
	checkKeeps(t, b, func() {
		for _, time := range []int{5, 640, 1 << 40} {
			checkSame(t, time, b.Put(0, 1, time, nil), api.ErrFull)
		}
		checkSame(t, "a time", b.Put(0, 1, -1, nil), api.ErrArg)
		checkSame(t, "a list", b.Put(0, 1, 5, many(257)), api.ErrArg)
		checkSame(t, "a version", b.Put(0, 2, 5, nil), api.ErrNone)
	})
	put(t, b, 0, 1, 0, 0, 70)
	put(t, b, 0, 1, 630, 0, 71)
	put(t, b, 0, 1, 320, 0, 72)
	checkList(t, b, 0, 1, 0, 0, 70)
	checkList(t, b, 0, 1, 635, 0, 71)
	checkList(t, b, 0, 1, 329, 0, 72)
	begin(t, b, 0, 1, 2)
	checkSame(t, "of the copy", b.Put(0, 2, 5, nil), api.ErrFull)
	drop(t, b, 0, 1, 320)
	put(t, b, 0, 1, 5, 0, 73)
	checkList(t, b, 0, 1, 6, 0, 73)
	checkSame(t, "full again", b.Put(0, 1, 320, nil), api.ErrFull)
	shut(t, b, 0, 1)
	checkSame(t, "closed", b.Put(0, 1, 320, nil), api.ErrState)
	checkSame(t, "closed, at a span", b.Put(0, 1, 5, nil), api.ErrState)
}

func TestDrop(t *testing.T) {
	b := condition.New()
	begin(t, b, 5, 0, 1)
	put(t, b, 5, 1, 10, 0, 1)
	put(t, b, 5, 1, 20, 0, 2)
	put(t, b, 5, 1, 30, 0, 3)
	drop(t, b, 5, 1, 20)
	checkSpans(t, b, 5, 1, 10, 30)
	checkList(t, b, 5, 1, 25, 0, 1)
	checkSame(t, "again", b.Drop(5, 1, 20), api.ErrNone)
	put(t, b, 5, 1, 20, 0, 4)
	checkSpans(t, b, 5, 1, 10, 20, 30)
	checkList(t, b, 5, 1, 25, 0, 4)
	drop(t, b, 5, 1, 10)
	checkNoList(t, b, 5, 1, 19)
	drop(t, b, 5, 1, 30)
	drop(t, b, 5, 1, 20)
	checkSpans(t, b, 5, 1)
	checkNoList(t, b, 5, 1, 1<<40)
	put(t, b, 5, 1, 1<<40, 0, 5)
	drop(t, b, 5, 1, 1<<40)
}

func TestErrorsOfDrop(t *testing.T) {
	b := condition.New()
	begin(t, b, 5, 0, 1)
	put(t, b, 5, 1, 10, 0, 1)
	begin(t, b, 5, 1, 2)
	shut(t, b, 5, 2)
	for _, x := range []struct {
		kind, version, time int
		e                   api.Errno
	}{
		{-1, 1, 10, api.ErrArg}, {7, 1, 10, api.ErrArg}, {5, 1, -1, api.ErrArg}, {5, 1, 1<<40 + 1, api.ErrArg},
		{5, 3, -1, api.ErrArg}, {5, 2, 1<<40 + 1, api.ErrArg}, {7, 3, 10, api.ErrArg},
		{5, 0, 10, api.ErrNone}, {5, 3, 10, api.ErrNone}, {4, 1, 10, api.ErrNone}, {5, -1, 10, api.ErrNone},
		{5, 2, 10, api.ErrState}, {5, 2, 11, api.ErrState},
		{5, 1, 9, api.ErrNone}, {5, 1, 11, api.ErrNone}, {5, 1, 0, api.ErrNone}, {5, 1, 1 << 40, api.ErrNone},
	} {
		checkKeeps(t, b, func() { checkSame(t, x, b.Drop(x.kind, x.version, x.time), x.e) })
	}
}

func TestClose(t *testing.T) {
	b := condition.New()
	begin(t, b, 0, 0, 1)
	begin(t, b, 0, 0, 2)
	begin(t, b, 6, 0, 1)
	put(t, b, 0, 2, 10, 0, 1)
	shut(t, b, 0, 2)
	for _, x := range []struct {
		kind, version int
		closed        bool
	}{{0, 1, false}, {0, 2, true}, {6, 1, false}, {0, 0, false}, {0, 3, false}, {6, 2, false}, {1, 2, false}, {-1, 2, false}, {7, 1, false}, {0, math.MinInt, false}} {
		checkSame(t, x, b.Closed(x.kind, x.version), x.closed)
	}
	for _, x := range []struct {
		kind, version int
		e             api.Errno
	}{
		{-1, 1, api.ErrArg}, {7, 1, api.ErrArg}, {7, 9, api.ErrArg}, {0, 0, api.ErrNone}, {0, 3, api.ErrNone}, {6, 2, api.ErrNone},
		{0, -1, api.ErrNone}, {0, math.MaxInt, api.ErrNone}, {0, 2, api.ErrState},
	} {
		checkKeeps(t, b, func() { checkSame(t, x, b.Close(x.kind, x.version), x.e) })
	}
	checkKeeps(t, b, func() {
		checkSame(t, "Put", b.Put(0, 2, 10, nil), api.ErrState)
		checkSame(t, "Drop", b.Drop(0, 2, 10), api.ErrState)
	})
	checkSpans(t, b, 0, 2, 10)
	checkList(t, b, 0, 2, 10, 0, 1)
}

func TestWhatDoesNotExist(t *testing.T) {
	b := sample(t)
	for _, kind := range odd() {
		if kind < 0 || kind > 6 {
			checkNothing(t, kind, b.Versions(kind), b.Closed(kind, 1), b.Spans(kind, 1))
			checkNoList(t, b, kind, 1, 10)
		}
	}
	for _, version := range odd() {
		if version < 1 || version > 2 {
			checkNothing(t, version, b.Closed(3, version), b.Spans(3, version))
			checkNoList(t, b, 3, version, 10)
		}
	}
	for _, name := range append(badNames(), "other", "firs", "first-", "second") {
		checkNothing(t, name, results(b.Tagged(name))...)
		checkFails(t, name, api.ErrNone, results(b.Resolve(name, 0))...)
		checkFails(t, name, api.ErrNone, results(b.Changes(name))...)
	}
}
