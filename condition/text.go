package condition

import (
	"strconv"
	"strings"

	"hodoscope/api"
)

// fault is the panic that ends the reading of a text.
type fault struct{}

// require ends the reading of a text if something in it is not as it must be.
func require(ok bool) {
	if !ok {
		panic(fault{})
	}
}

// reader takes the words of a line, one after the other. Each space ends a word, so that a word between two spaces is empty.
type reader struct {
	rest string
	more bool
}

func wordsOf(line string) *reader {
	return &reader{line, true}
}

func (r *reader) word() string {
	require(r.more)
	var word string
	word, r.rest, r.more = strings.Cut(r.rest, " ")
	return word
}

// number takes a number. Each has exactly one form, that in which it is written.
func (r *reader) number() int {
	word := r.word()
	n, err := strconv.Atoi(word)
	require(err == nil && strconv.Itoa(n) == word)
	return n
}

// entries takes how many entries a list has, and these.
func (r *reader) entries() []api.Entry {
	count := r.number()
	require(within(count, 0, api.MaxEntries))
	var l []api.Entry
	for range count {
		l = append(l, api.Entry{Key: r.number(), Value: r.number()})
	}
	return l
}

// end takes the end of the line.
func (r *reader) end() {
	require(!r.more)
}

// joined returns the beginning of a line and numbers, with one space before each.
func joined(first string, numbers ...int) string {
	words := []byte(first)
	for _, n := range numbers {
		words = strconv.AppendInt(append(words, ' '), int64(n), 10)
	}
	return string(words)
}

// Print writes a valid snapshot as text; for any other one the text is empty.
func Print(s api.Snapshot) string {
	if !Check(s) {
		return ""
	}
	var b strings.Builder
	b.WriteString(joined("snapshot "+s.Tag, s.Time) + "\n")
	for kind, l := range s.Kinds {
		for _, x := range l {
			b.WriteString(joined(strconv.Itoa(kind), x.Key, x.Value) + "\n")
		}
	}
	b.WriteString("end\n")
	return b.String()
}

// readSnapshot reads the lines of a snapshot up to the line end. What it leaves unchecked is found by printing the snapshot,
// which has only one text.
func readSnapshot(text string) (s api.Snapshot) {
	line, rest, ended := strings.Cut(text, "\n")
	r := wordsOf(line)
	require(r.word() == "snapshot")
	s.Tag, s.Time = r.word(), r.number()
	for ended {
		line, rest, ended = strings.Cut(rest, "\n")
		if line == "end" {
			break
		}
		r = wordsOf(line)
		kind := r.number()
		require(isKind(kind) && len(s.Kinds[kind]) < api.MaxEntries)
		s.Kinds[kind] = append(s.Kinds[kind], api.Entry{Key: r.number(), Value: r.number()})
	}
	return s
}

// Read reads the text of a snapshot.
func Read(s string) (snapshot api.Snapshot, e api.Errno) {
	defer func() {
		if recover() != nil {
			snapshot, e = api.Snapshot{}, api.ErrForm
		}
	}()
	snapshot = readSnapshot(s)
	require(Print(snapshot) == s)
	// A copy, since a part of the text would keep all of it in memory.
	snapshot.Tag = strings.Clone(snapshot.Tag)
	return snapshot, api.OK
}
