package condition_test

import (
	"fmt"
	"maps"
	"math/rand"
	"slices"
	"strings"
	"testing"

	"hodoscope/api"
	"hodoscope/condition"
)

// P4.1 to P4.6, P4.10 to P4.12: random calls, and the same calls of a book that keeps everything in the plainest way.

type plainVersion struct {
	closed bool
	spans  map[int][]api.Entry
}

type plainTag struct {
	name     string
	versions [api.Kinds]int
}

type plainBook struct {
	versions [api.Kinds][]plainVersion
	tags     []plainTag
	lines    []string
}

// change is a call that may change a book.
type change struct {
	word                string
	kind, version, time int
	l                   []api.Entry
	name                string
	versions            [api.Kinds]int
}

func (c change) of(b *condition.Book) (int, api.Errno) {
	switch c.word {
	case "begin":
		return b.Begin(c.kind, c.version)
	case "put":
		return 0, b.Put(c.kind, c.version, c.time, c.l)
	case "drop":
		return 0, b.Drop(c.kind, c.version, c.time)
	case "close":
		return 0, b.Close(c.kind, c.version)
	}
	return 0, b.Tag(c.name, c.versions)
}

// line is the line of the log for the call, without its sum.
func (c change) line() string {
	switch c.word {
	case "put":
		s := fmt.Sprint("put ", c.kind, " ", c.version, " ", c.time, " ", len(c.l))
		for _, x := range c.l {
			s += fmt.Sprint(" ", x.Key, " ", x.Value)
		}
		return s
	case "drop":
		return fmt.Sprint("drop ", c.kind, " ", c.version, " ", c.time)
	case "tag":
		return "tag " + c.name + " " + strings.Trim(fmt.Sprint(c.versions), "[]")
	}
	return fmt.Sprint(c.word, " ", c.kind, " ", c.version)
}

// has reports whether the book has a version of a valid kind.
func (b *plainBook) has(kind, version int) bool {
	return 1 <= version && version <= len(b.versions[kind])
}

// error returns the error of a call. The lists, times and names of the calls here are valid.
func (b *plainBook) error(c change) api.Errno {
	if c.word == "tag" {
		return b.tagError(c)
	}
	if c.kind < 0 || c.kind >= api.Kinds {
		return api.ErrArg
	}
	if !b.has(c.kind, c.version) && (c.word != "begin" || c.version != 0) {
		return api.ErrNone
	}
	if c.word == "begin" {
		if len(b.versions[c.kind]) == 64 {
			return api.ErrFull
		}
		return api.OK
	}
	v := b.versions[c.kind][c.version-1]
	_, there := v.spans[c.time]
	switch {
	case v.closed:
		return api.ErrState
	case c.word == "put" && !there && len(v.spans) == 64:
		return api.ErrFull
	case c.word == "drop" && !there:
		return api.ErrNone
	}
	return api.OK
}

func (b *plainBook) tagError(c change) api.Errno {
	for _, t := range b.tags {
		if t.name == c.name {
			return api.ErrThere
		}
	}
	for kind, version := range c.versions {
		if version != 0 && !b.has(kind, version) {
			return api.ErrNone
		}
		if version != 0 && !b.versions[kind][version-1].closed {
			return api.ErrState
		}
	}
	if len(b.tags) == 64 {
		return api.ErrFull
	}
	return api.OK
}

func (b *plainBook) do(c change) (int, api.Errno) {
	if e := b.error(c); e != api.OK {
		return 0, e
	}
	b.lines = append(b.lines, c.line())
	switch c.word {
	case "begin":
		v := plainVersion{spans: map[int][]api.Entry{}}
		if c.version > 0 {
			maps.Copy(v.spans, b.versions[c.kind][c.version-1].spans)
		}
		b.versions[c.kind] = append(b.versions[c.kind], v)
		return len(b.versions[c.kind]), api.OK
	case "put":
		b.versions[c.kind][c.version-1].spans[c.time] = c.l
	case "drop":
		delete(b.versions[c.kind][c.version-1].spans, c.time)
	case "close":
		b.versions[c.kind][c.version-1].closed = true
	case "tag":
		b.tags = append(b.tags, plainTag{c.name, c.versions})
	}
	return 0, api.OK
}

// list looks at one time after the other, backwards.
func (b *plainBook) list(kind, version, time int) ([]api.Entry, bool) {
	if !b.has(kind, version) {
		return nil, false
	}
	for ; time >= 0; time-- {
		if l, there := b.versions[kind][version-1].spans[time]; there {
			return l, true
		}
	}
	return nil, false
}

func (b *plainBook) changes(t plainTag) []int {
	times := map[int]bool{}
	for kind, version := range t.versions {
		if version > 0 {
			for time := range b.versions[kind][version-1].spans {
				times[time] = true
			}
		}
	}
	return slices.Sorted(maps.Keys(times))
}

// checkBook checks that a book shows what a plain one has.
func checkBook(t *testing.T, b *condition.Book, want *plainBook, last int) {
	t.Helper()
	for kind, l := range want.versions {
		checkSame(t, "versions", b.Versions(kind), len(l))
		for i, v := range l {
			checkSame(t, "closed", b.Closed(kind, i+1), v.closed)
			checkSpans(t, b, kind, i+1, slices.Sorted(maps.Keys(v.spans))...)
			for time := range last + 2 {
				l, there := b.List(kind, i+1, time)
				if m, is := want.list(kind, i+1, time); !slices.Equal(l, m) || there != is {
					t.Fatalf("List(%d, %d, %d): %v, %v, want %v, %v", kind, i+1, time, l, there, m, is)
				}
			}
		}
	}
	var names []string
	for _, tag := range want.tags {
		names = append(names, tag.name)
		versions, there := b.Tagged(tag.name)
		checkSame(t, tag.name, versions, tag.versions)
		checkSame(t, tag.name, there, true)
		checkChanges(t, b, tag.name, want.changes(tag)...)
		for time := range last + 2 {
			s := snapshot(tag.name, time)
			for kind, version := range tag.versions {
				s.Kinds[kind], _ = want.list(kind, version, time)
			}
			checkResolve(t, b, s)
		}
	}
	checkSame(t, "tags", slices.Equal(b.Tags(), names), true)
	checkSame(t, "log", b.Log(), logOf(want.lines...))
}

// randomChange returns a call with times up to last, of which some return an error.
func randomChange(r *rand.Rand, b *plainBook, kinds, last int) change {
	words := []string{"begin", "put", "put", "put", "put", "put", "put", "put", "drop", "drop", "close", "tag"}
	c := change{word: words[r.Intn(len(words))], kind: r.Intn(kinds), time: r.Intn(last + 1)}
	if r.Intn(40) == 0 {
		c.kind = []int{-1, 7}[r.Intn(2)]
	}
	if 0 <= c.kind && c.kind < api.Kinds {
		c.version = r.Intn(len(b.versions[c.kind])+2) - r.Intn(2)
	}
	for range r.Intn(4) {
		c.l = append(c.l, api.Entry{Key: 100*len(c.l) + r.Intn(100), Value: r.Intn(2001) - 1000})
	}
	c.name = fmt.Sprint("t", r.Intn(100))
	for kind, l := range b.versions {
		for i, v := range l {
			if v.closed && r.Intn(2) == 0 || r.Intn(60) == 0 {
				c.versions[kind] = i + 1
			}
		}
	}
	return c
}

func TestRandomCalls(t *testing.T) {
	r := rand.New(rand.NewSource(4))
	for _, x := range []struct{ rounds, calls, kinds, last int }{{60, 40, 3, 8}, {20, 150, 7, 12}, {2, 1500, 2, 80}} {
		for range x.rounds {
			b, want := condition.New(), &plainBook{}
			for range x.calls {
				c := randomChange(r, want, x.kinds, x.last)
				version, e := c.of(b)
				if n, f := want.do(c); version != n || e != f {
					t.Fatalf("%v: %d, error %d, want %d, error %d", c, version, e, n, f)
				}
			}
			checkBook(t, b, want, x.last)
			loaded, used := condition.Load(b.Log())
			checkSame(t, "bytes", used, len(b.Log()))
			checkBook(t, loaded, want, x.last)
		}
	}
}
