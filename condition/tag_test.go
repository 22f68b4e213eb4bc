package condition_test

import (
	"fmt"
	"math"
	"slices"
	"testing"

	"hodoscope/api"
	"hodoscope/condition"
)

// P4.3, P4.4, P4.5, P4.10, P4.11

func TestTagNames(t *testing.T) {
	b := condition.New()
	for _, name := range badNames() {
		checkKeeps(t, b, func() { checkSame(t, fmt.Sprintf("%q", name), b.Tag(name, numbers()), api.ErrArg) })
	}
	for _, name := range goodNames() {
		tag(t, b, name)
		checkKeeps(t, b, func() { checkSame(t, name, b.Tag(name, numbers()), api.ErrThere) })
	}
	if l := b.Tags(); !slices.Equal(l, goodNames()) {
		t.Error(l)
	}
}

func TestTagged(t *testing.T) {
	b := sample(t)
	if l := b.Tags(); !slices.Equal(l, []string{"first", "second-2"}) {
		t.Error(l)
	}
	for name, want := range map[string][api.Kinds]int{"first": numbers(1, 0, 0, 1), "second-2": numbers(1, 0, 0, 2, 0, 0, 1)} {
		versions, there := b.Tagged(name)
		checkSame(t, name, versions, want)
		checkSame(t, name, there, true)
	}
}

func TestErrorsOfTag(t *testing.T) {
	b := condition.New()
	begin(t, b, 1, 0, 1)
	begin(t, b, 1, 0, 2)
	begin(t, b, 5, 0, 1)
	shut(t, b, 1, 1)
	tag(t, b, "there", 0, 1)
	for _, x := range []struct {
		name     string
		versions [api.Kinds]int
		e        api.Errno
	}{
		{"T", numbers(0, 1), api.ErrArg},
		{"", numbers(0, 9), api.ErrArg},
		{"T", numbers(0, 2), api.ErrArg},
		{"there", numbers(0, 1), api.ErrThere},
		{"there", numbers(0, 9), api.ErrThere},
		{"there", numbers(0, 2), api.ErrThere},
		{"new", numbers(0, 9), api.ErrNone},
		{"new", numbers(0, 3), api.ErrNone},
		{"new", numbers(0, -1), api.ErrNone},
		{"new", numbers(1), api.ErrNone},
		{"new", numbers(0, 1, 0, 0, 0, 0, 1), api.ErrNone},
		{"new", numbers(math.MinInt), api.ErrNone},
		{"new", numbers(0, 0, 0, 0, 0, 0, math.MaxInt), api.ErrNone},
		{"new", numbers(0, 2), api.ErrState},
		{"new", numbers(0, 1, 0, 0, 0, 1), api.ErrState},
		{"new", numbers(0, 2, 0, 0, 0, 9), api.ErrState},
		{"new", numbers(0, 9, 0, 0, 0, 1), api.ErrNone},
		{"new", numbers(9, 2), api.ErrNone},
	} {
		checkKeeps(t, b, func() { checkSame(t, x, b.Tag(x.name, x.versions), x.e) })
	}
}

func TestMaxTags(t *testing.T) {
	b := condition.New()
	begin(t, b, 6, 0, 1)
	var want []string
	for i := range 64 {
		want = append(want, fmt.Sprint("t", (i*37)%64))
		tag(t, b, want[i])
	}
	checkKeeps(t, b, func() {
		checkSame(t, "one more", b.Tag("u", numbers()), api.ErrFull)
		checkSame(t, "a name", b.Tag("U", numbers()), api.ErrArg)
		checkSame(t, "a tag that is there", b.Tag("t5", numbers()), api.ErrThere)
		checkSame(t, "no version", b.Tag("u", numbers(0, 0, 0, 0, 0, 0, 2)), api.ErrNone)
		checkSame(t, "an open version", b.Tag("u", numbers(0, 0, 0, 0, 0, 0, 1)), api.ErrState)
	})
	if l := b.Tags(); !slices.Equal(l, want) {
		t.Error(l)
	}
}

func TestResolve(t *testing.T) {
	b := sample(t)
	pedestals, later := entries(0, 100, 511, 101), entries(0, 110)
	for _, want := range []api.Snapshot{
		snapshot("first", 0, pedestals),
		snapshot("first", 9, pedestals),
		snapshot("first", 10, pedestals, nil, nil, entries(0, 5)),
		snapshot("first", 19, pedestals, nil, nil, entries(0, 5)),
		snapshot("first", 20, pedestals, nil, nil, entries(0, 7, 1, -2)),
		snapshot("first", 30, pedestals),
		snapshot("first", 50, later),
		snapshot("first", 1<<40, later),
		snapshot("second-2", 20, pedestals, nil, nil, entries(0, 5)),
		snapshot("second-2", 1<<40, later, nil, nil, entries(1<<26-1, 1<<30)),
	} {
		checkResolve(t, b, want)
	}
	for _, x := range []struct {
		name string
		time int
		e    api.Errno
	}{
		{"first", -1, api.ErrArg}, {"first", 1<<40 + 1, api.ErrArg}, {"first", math.MinInt, api.ErrArg}, {"first", math.MaxInt, api.ErrArg},
		{"none", 0, api.ErrNone}, {"none", -1, api.ErrNone}, {"", -1, api.ErrNone}, {"First", 0, api.ErrNone},
	} {
		checkFails(t, x, x.e, results(b.Resolve(x.name, x.time))...)
	}
}

func TestResolveOfTagsWithoutVersions(t *testing.T) {
	b := condition.New()
	begin(t, b, 2, 0, 1)
	shut(t, b, 2, 1)
	tag(t, b, "none")
	tag(t, b, "empty", 0, 0, 1)
	for _, name := range b.Tags() {
		checkResolve(t, b, snapshot(name, 0))
		checkResolve(t, b, snapshot(name, 1<<40))
		l, e := b.Changes(name)
		checkSame(t, name, e, api.OK)
		checkNothing(t, name, l)
	}
}

func checkChanges(t *testing.T, b *condition.Book, name string, want ...int) {
	t.Helper()
	if l, e := b.Changes(name); e != api.OK || !slices.Equal(l, want) {
		t.Errorf("Changes(%s): %v, error %d, want %v", name, l, e, want)
	}
}

func TestChanges(t *testing.T) {
	b := sample(t)
	checkChanges(t, b, "first", 0, 10, 20, 30, 50)
	checkChanges(t, b, "second-2", 0, 10, 30, 50, 1<<40)
	b = condition.New()
	for kind := range api.Kinds {
		begin(t, b, kind, 0, 1)
		put(t, b, kind, 1, 40, 0, 1)
		put(t, b, kind, 1, 10*(kind%3))
		shut(t, b, kind, 1)
	}
	tag(t, b, "all", 1, 1, 1, 1, 1, 1, 1)
	tag(t, b, "some", 0, 1, 1, 0, 1)
	checkChanges(t, b, "all", 0, 10, 20, 40)
	checkChanges(t, b, "some", 10, 20, 40)
}

// What Resolve returns stays the same while the book is used.
func TestSnapshotsNeverChange(t *testing.T) {
	b := sample(t)
	snapshots := map[string]map[int]api.Snapshot{}
	for _, name := range b.Tags() {
		snapshots[name] = map[int]api.Snapshot{}
		for _, time := range []int{0, 5, 10, 15, 20, 25, 30, 50, 60, 1 << 40} {
			snapshots[name][time], _ = b.Resolve(name, time)
		}
	}
	for kind := range api.Kinds {
		for version := range b.Versions(kind) + 2 {
			for _, time := range []int{0, 5, 10, 20, 25, 30, 1 << 40} {
				b.Put(kind, version, time, entries(0, 999))
				b.Drop(kind, version, time)
			}
			n, _ := b.Begin(kind, version)
			b.Put(kind, n, 20, entries(0, 888))
			b.Drop(kind, n, 10)
			b.Close(kind, n)
			b.Close(kind, version)
		}
	}
	for i, name := range []string{"first", "second-2", "third", "fourth"} {
		b.Tag(name, numbers(i, 0, 0, i))
	}
	for name := range snapshots {
		for _, want := range snapshots[name] {
			checkResolve(t, b, want)
		}
	}
}

func TestSnapshotsBetweenChangesAreEqual(t *testing.T) {
	b := sample(t)
	for _, name := range b.Tags() {
		changes, _ := b.Changes(name)
		for from := range 60 {
			for to := from; to < 60; to++ {
				if slices.ContainsFunc(changes, func(time int) bool { return from < time && time <= to }) {
					break
				}
				s, _ := b.Resolve(name, from)
				s.Time = to
				checkResolve(t, b, s)
			}
		}
	}
}

// Each list of a snapshot is the list of the tag's version of its kind.
func TestSnapshotsAreOfOneTagAndTime(t *testing.T) {
	b := sample(t)
	for _, name := range b.Tags() {
		versions, _ := b.Tagged(name)
		for time := range 60 {
			want := snapshot(name, time)
			for kind, version := range versions {
				want.Kinds[kind], _ = b.List(kind, version, time)
			}
			checkResolve(t, b, want)
		}
	}
}
