package condition

import (
	"cmp"
	"slices"

	"hodoscope/api"
)

// span is the list of a version from a time on. Its entries are never changed, so that versions may share them.
type span struct {
	time    int
	entries []api.Entry
}

// revision is what a book has of a version; its spans are ordered by their times.
type revision struct {
	closed bool
	spans  []span
}

// copyOf returns a list of entries in memory of its own.
func copyOf(l []api.Entry) []api.Entry {
	return append([]api.Entry(nil), l...)
}

// find returns the place at which a span with the time is, or would be, and whether it is there.
func (r *revision) find(time int) (int, bool) {
	return slices.BinarySearchFunc(r.spans, time, func(s span, time int) int { return cmp.Compare(s.time, time) })
}

// changeable returns an open version, or the error that there is none.
func (b *Book) changeable(kind, version int) (*revision, api.Errno) {
	r := b.revisions[id{kind, version}]
	switch {
	case r == nil:
		return nil, api.ErrNone
	case r.closed:
		return nil, api.ErrState
	}
	return r, api.OK
}

// Begin begins a version with the spans of another one, or with none.
func (b *Book) Begin(kind, from int) (version int, e api.Errno) {
	if !b.made() {
		return 0, api.ErrNil
	}
	if !isKind(kind) {
		return 0, api.ErrArg
	}
	r := &revision{}
	if from != 0 {
		base := b.revisions[id{kind, from}]
		if base == nil {
			return 0, api.ErrNone
		}
		r.spans = slices.Clone(base.spans)
	}
	if b.counts[kind] == api.MaxVersions {
		return 0, api.ErrFull
	}
	b.counts[kind]++
	b.revisions[id{kind, b.counts[kind]}] = r
	b.record("begin", kind, from)
	return b.counts[kind], api.OK
}

// Put gives an open version a span, instead of the one that it has at the time.
func (b *Book) Put(kind, version, time int, l []api.Entry) api.Errno {
	if !b.made() {
		return api.ErrNil
	}
	if !isKind(kind) || !isTime(time) || !validEntries(l) {
		return api.ErrArg
	}
	r, e := b.changeable(kind, version)
	if e != api.OK {
		return e
	}
	i, there := r.find(time)
	if !there && len(r.spans) == api.MaxSpans {
		return api.ErrFull
	}
	if !there {
		r.spans = slices.Insert(r.spans, i, span{time: time})
	}
	r.spans[i].entries = copyOf(l)
	b.record("put", putNumbers(kind, version, time, l)...)
	return api.OK
}

// Drop removes a span of an open version.
func (b *Book) Drop(kind, version, time int) api.Errno {
	if !b.made() {
		return api.ErrNil
	}
	if !isKind(kind) || !isTime(time) {
		return api.ErrArg
	}
	r, e := b.changeable(kind, version)
	if e != api.OK {
		return e
	}
	i, there := r.find(time)
	if !there {
		return api.ErrNone
	}
	r.spans = slices.Delete(r.spans, i, i+1)
	b.record("drop", kind, version, time)
	return api.OK
}

// Close closes a version.
func (b *Book) Close(kind, version int) api.Errno {
	if !b.made() {
		return api.ErrNil
	}
	if !isKind(kind) {
		return api.ErrArg
	}
	r, e := b.changeable(kind, version)
	if e != api.OK {
		return e
	}
	r.closed = true
	b.record("close", kind, version)
	return api.OK
}

// Versions returns how many versions a kind has.
func (b *Book) Versions(kind int) int {
	if !b.made() || !isKind(kind) {
		return 0
	}
	return b.counts[kind]
}

// existing returns what a book has of a version; nil if there is no such version.
func (b *Book) existing(kind, version int) *revision {
	if !b.made() {
		return nil
	}
	return b.revisions[id{kind, version}]
}

// Closed reports whether a version exists and is closed.
func (b *Book) Closed(kind, version int) bool {
	r := b.existing(kind, version)
	return r != nil && r.closed
}

// Spans returns the times of a version's spans.
func (b *Book) Spans(kind, version int) []int {
	r := b.existing(kind, version)
	if r == nil {
		return nil
	}
	var times []int
	for _, s := range r.spans {
		times = append(times, s.time)
	}
	return times
}

// List returns a version's list at a time; false if there is none.
func (b *Book) List(kind, version, time int) ([]api.Entry, bool) {
	r := b.existing(kind, version)
	if r == nil {
		return nil, false
	}
	i, there := r.find(time)
	if !there {
		i--
	}
	if i < 0 {
		return nil, false
	}
	return copyOf(r.spans[i].entries), true
}
