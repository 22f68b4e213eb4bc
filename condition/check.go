package condition

import (
	"strings"

	"hodoscope/api"
)

// maxKey is the greatest key of an entry.
const maxKey = 1<<26 - 1

func within(n, least, greatest int) bool {
	return least <= n && n <= greatest
}

func isKind(kind int) bool {
	return within(kind, 0, api.Kinds-1)
}

func isTime(time int) bool {
	return within(time, 0, api.MaxTime)
}

func isLetter(c rune) bool {
	return 'a' <= c && c <= 'z'
}

func isName(s string) bool {
	if !within(len(s), 1, api.MaxName) || !isLetter(rune(s[0])) {
		return false
	}
	return !strings.ContainsFunc(s, func(c rune) bool {
		return !isLetter(c) && (c < '0' || '9' < c) && c != '-'
	})
}

func validEntries(l []api.Entry) bool {
	if len(l) > api.MaxEntries {
		return false
	}
	for i, x := range l {
		if !within(x.Key, 0, maxKey) || !within(x.Value, -api.MaxValue, api.MaxValue) {
			return false
		}
		if i > 0 && l[i-1].Key >= x.Key {
			return false
		}
	}
	return true
}

// Check reports whether a snapshot is valid.
func Check(s api.Snapshot) bool {
	for _, l := range s.Kinds {
		if !validEntries(l) {
			return false
		}
	}
	return isName(s.Tag) && isTime(s.Time)
}

// Value returns the value of the first entry with a key in a snapshot's list of a kind, and otherwise if there is none. It
// looks at one entry after the other, since the keys of a snapshot that is not valid need not rise.
func Value(s api.Snapshot, kind, key, otherwise int) int {
	if !isKind(kind) {
		return otherwise
	}
	for _, x := range s.Kinds[kind] {
		if x.Key == key {
			return x.Value
		}
	}
	return otherwise
}
