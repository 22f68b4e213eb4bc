package condition

import (
	"slices"
	"strings"

	"hodoscope/api"
)

// firstSum stands before the first line of a log, in the place of a line's sum.
const firstSum = "0000000000000000"

// sumOf returns the sum that the book's next line has if its words are these.
func (b *Book) sumOf(words string) string {
	return Hex(Digest(b.lastSum + words))
}

// record adds the line of a call to the log.
func (b *Book) record(first string, numbers ...int) {
	words := joined(first, numbers...)
	b.lastSum = b.sumOf(words)
	b.log.WriteString(words + " " + b.lastSum + "\n")
}

// putNumbers returns the numbers of a line of Put.
func putNumbers(kind, version, time int, l []api.Entry) []int {
	numbers := []int{kind, version, time, len(l)}
	for _, x := range l {
		numbers = append(numbers, x.Key, x.Value)
	}
	return numbers
}

// Log returns the book's log.
func (b *Book) Log() string {
	if !b.made() {
		return ""
	}
	return b.log.String()
}

// command is the first word of a line, and what makes the call again for which the line stands.
type command struct {
	word string
	call func(b *Book, r *reader) api.Errno
}

func commands() []command {
	return []command{
		{"begin", beginAgain},
		{"put", putAgain},
		{"drop", dropAgain},
		{"close", closeAgain},
		{"tag", tagAgain},
	}
}

func beginAgain(b *Book, r *reader) api.Errno {
	kind, from := r.number(), r.number()
	r.end()
	_, e := b.Begin(kind, from)
	return e
}

func putAgain(b *Book, r *reader) api.Errno {
	kind, version, time, l := r.number(), r.number(), r.number(), r.entries()
	r.end()
	return b.Put(kind, version, time, l)
}

func dropAgain(b *Book, r *reader) api.Errno {
	kind, version, time := r.number(), r.number(), r.number()
	r.end()
	return b.Drop(kind, version, time)
}

func closeAgain(b *Book, r *reader) api.Errno {
	kind, version := r.number(), r.number()
	r.end()
	return b.Close(kind, version)
}

func tagAgain(b *Book, r *reader) api.Errno {
	name := r.word()
	var versions [api.Kinds]int
	for kind := range versions {
		versions[kind] = r.number()
	}
	r.end()
	return b.Tag(name, versions)
}

// repeat makes the call again for which a line stands. A number has only one form, so the line that the call adds to the
// log is this one.
func (b *Book) repeat(line string) {
	space := strings.LastIndexByte(line, ' ')
	require(space >= 0 && line[space+1:] == b.sumOf(line[:space]))
	r := wordsOf(line[:space])
	word := r.word()
	list := commands()
	i := slices.IndexFunc(list, func(c command) bool { return c.word == word })
	require(i >= 0 && list[i].call(b, r) == api.OK)
}

// Load returns the book whose log is the longest beginning of s, and how many bytes that log has.
func Load(s string) (b *Book, used int) {
	b = New()
	defer func() {
		// The first line that can't be read ends the log. What the lines before it made stays.
		_ = recover()
	}()
	for used < len(s) {
		line, _, ended := strings.Cut(s[used:], "\n")
		require(ended)
		b.repeat(line)
		used += len(line) + 1
	}
	return b, used
}
