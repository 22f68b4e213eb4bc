package condition

import (
	"slices"
	"strings"

	"hodoscope/api"
)

// tag is a name of closed versions, one of each kind, or 0 for none.
type tag struct {
	name     string
	versions [api.Kinds]int
}

// find returns the tag with a name.
func (b *Book) find(name string) (tag, bool) {
	i := slices.IndexFunc(b.tags, func(t tag) bool { return t.name == name })
	if i < 0 {
		return tag{}, false
	}
	return b.tags[i], true
}

// versionFault returns why a tag can't name a version.
func (b *Book) versionFault(kind, version int) api.Errno {
	if version == 0 {
		return api.OK
	}
	r := b.revisions[id{kind, version}]
	switch {
	case r == nil:
		return api.ErrNone
	case !r.closed:
		return api.ErrState
	}
	return api.OK
}

// Tag makes a tag.
func (b *Book) Tag(name string, versions [api.Kinds]int) api.Errno {
	if !b.made() {
		return api.ErrNil
	}
	if !isName(name) {
		return api.ErrArg
	}
	if _, there := b.find(name); there {
		return api.ErrThere
	}
	for kind, version := range versions {
		if e := b.versionFault(kind, version); e != api.OK {
			return e
		}
	}
	if len(b.tags) == api.MaxTags {
		return api.ErrFull
	}
	// A copy, since the name may be a part of a long text, which would stay in memory.
	b.tags = append(b.tags, tag{strings.Clone(name), versions})
	b.record("tag "+name, versions[:]...)
	return api.OK
}

// Tags returns the names of the tags, in the order in which they were made.
func (b *Book) Tags() []string {
	if !b.made() {
		return nil
	}
	var names []string
	for _, t := range b.tags {
		names = append(names, t.name)
	}
	return names
}

// Tagged returns the versions of a tag; false if there is no such tag.
func (b *Book) Tagged(name string) ([api.Kinds]int, bool) {
	if !b.made() {
		return [api.Kinds]int{}, false
	}
	t, there := b.find(name)
	return t.versions, there
}

// Resolve returns the snapshot of a tag at a time.
func (b *Book) Resolve(name string, time int) (api.Snapshot, api.Errno) {
	if !b.made() {
		return api.Snapshot{}, api.ErrNil
	}
	t, there := b.find(name)
	if !there {
		return api.Snapshot{}, api.ErrNone
	}
	if !isTime(time) {
		return api.Snapshot{}, api.ErrArg
	}
	s := api.Snapshot{Tag: t.name, Time: time}
	for kind, version := range t.versions {
		s.Kinds[kind], _ = b.List(kind, version, time)
	}
	return s, api.OK
}

// Changes returns the times at which a tag's snapshots change.
func (b *Book) Changes(name string) ([]int, api.Errno) {
	if !b.made() {
		return nil, api.ErrNil
	}
	t, there := b.find(name)
	if !there {
		return nil, api.ErrNone
	}
	var times []int
	for kind, version := range t.versions {
		times = append(times, b.Spans(kind, version)...)
	}
	slices.Sort(times)
	return slices.Compact(times), api.OK
}
