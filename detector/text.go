package detector

import (
	"iter"
	"strconv"
	"strings"

	"hodoscope/api"
)

// maxDigits is how many digits a number may have; the greatest one of a valid detector, MaxTime, has all of them.
const maxDigits = 13

// lines yields the lines of a text without their line feeds, and whether each of them has one. Only the last may have
// none; that of the empty text is empty.
func lines(s string) iter.Seq2[string, bool] {
	return func(yield func(line string, ended bool) bool) {
		for rest := s; ; {
			line, after, ended := strings.Cut(rest, "\n")
			if !yield(line, ended) || after == "" {
				return
			}
			rest = after
		}
	}
}

// words returns a function that takes the next word of a line, and one that reports whether all have been taken. Each
// space ends a word, so that a word between two spaces is empty; after the last word there are only empty ones.
func words(line string) (next func() string, done func() bool) {
	more := true
	next = func() string {
		var word string
		word, line, more = strings.Cut(line, " ")
		return word
	}
	done = func() bool { return !more }
	return next, done
}

// number reads a number. Each has exactly one form, that in which it is written.
func number(word string) (int, bool) {
	if len(strings.TrimPrefix(word, "-")) > maxDigits {
		return 0, false
	}
	n, err := strconv.Atoi(word)
	if err != nil || strconv.Itoa(n) != word {
		return 0, false
	}
	return n, true
}

// The numbers of a line, in their order.

func planeNumbers(p *api.Plane) []*int {
	return []*int{&p.Face, &p.Depth, &p.Cols, &p.Rows, &p.HalfX, &p.HalfY, &p.Thick}
}

func slabNumbers(s *api.Slab) []*int {
	return []*int{&s.Face, &s.From, &s.To, &s.B}
}

func cableNumbers(c *api.Cable) []*int {
	return []*int{&c.Link, &c.Slot, &c.Plane, &c.Col, &c.Row, &c.Wide, &c.High, &c.From, &c.To}
}

// begin takes the words of a line that come before its numbers, adds to d what the line describes, and returns where the
// numbers belong; false if no such line may follow those that made d. Only the first line finds a d without a Name.
func begin(d *api.Detector, next func() string) ([]*int, bool) {
	kind := next()
	switch {
	case d.Name == "":
		// A copy, since a part of the text would keep all of it in memory.
		d.Name = strings.Clone(next())
		return nil, kind == "detector" && d.Name != ""
	case kind == "plane" && len(d.Field) == 0 && len(d.Cables) == 0:
		d.Planes = append(d.Planes, api.Plane{})
		return planeNumbers(&d.Planes[len(d.Planes)-1]), true
	case kind == "slab" && len(d.Cables) == 0:
		d.Field = append(d.Field, api.Slab{})
		return slabNumbers(&d.Field[len(d.Field)-1]), true
	case kind == "cable":
		d.Cables = append(d.Cables, api.Cable{})
		return cableNumbers(&d.Cables[len(d.Cables)-1]), true
	}
	return nil, false
}

// read returns what a text describes, which need not be valid; otherwise the number of the first line that does not have
// the form.
func read(s string) (d api.Detector, fault int) {
	count := 0
reading:
	for line, ended := range lines(s) {
		count++
		next, done := words(line)
		fields, ok := begin(&d, next)
		for _, field := range fields {
			if *field, ok = number(next()); !ok {
				fault = count
				break reading
			}
		}
		if !ok || !done() || !ended {
			fault = count
			break reading
		}
	}
	return d, fault
}

// lineOf returns the number of the line of what Check found.
func lineOf(d api.Detector, part, index int) int {
	switch part {
	case 1:
		return 2 + index
	case 2:
		return 2 + len(d.Planes) + index
	case 3:
		return 2 + len(d.Planes) + len(d.Field) + index
	}
	return 1
}

// Parse reads the text of a detector; with an error it returns the number of the line that has the fault.
func Parse(s string) (d api.Detector, line int, e api.Errno) {
	d, line = read(s)
	if line > 0 {
		return api.Detector{}, line, api.ErrForm
	}
	if part, index, e := Check(d); e != api.OK {
		return api.Detector{}, lineOf(d, part, index), e
	}
	return d, 0, api.OK
}

func writeLine(b *strings.Builder, kind string, numbers []*int) {
	b.WriteString(kind)
	for _, n := range numbers {
		b.WriteString(" ")
		b.WriteString(strconv.Itoa(*n))
	}
	b.WriteString("\n")
}

// Print writes a valid detector as text; for any other one the text is empty.
func Print(d api.Detector) string {
	if !valid(d) {
		return ""
	}
	var b strings.Builder
	writeLine(&b, "detector "+d.Name, nil)
	for _, p := range d.Planes {
		writeLine(&b, "plane", planeNumbers(&p))
	}
	for _, s := range d.Field {
		writeLine(&b, "slab", slabNumbers(&s))
	}
	for _, c := range d.Cables {
		writeLine(&b, "cable", cableNumbers(&c))
	}
	return b.String()
}
