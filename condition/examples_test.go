package condition_test

import (
	"testing"

	"hodoscope/api"
	"hodoscope/condition"
)

// The rows of the chapter's table of examples.

func exampleBook(t *testing.T) *condition.Book {
	t.Helper()
	b := condition.New()
	begin(t, b, 3, 0, 1)
	put(t, b, 3, 1, 10, 0, 5)
	put(t, b, 3, 1, 20, 0, 7, 1, -2)
	shut(t, b, 3, 1)
	tag(t, b, "t", 0, 0, 0, 1, 0, 0, 0)
	return b
}

func TestExamplesOfBooks(t *testing.T) {
	b := exampleBook(t)
	checkResolve(t, b, snapshot("t", 15, nil, nil, nil, entries(0, 5)))
	checkResolve(t, b, snapshot("t", 5))
	checkSame(t, "Put", b.Put(3, 1, 30, nil), api.ErrState)
	begin(t, b, 3, 1, 2)
	checkList(t, b, 3, 2, 20, 0, 7, 1, -2)
	checkChanges(t, b, "t", 10, 20)
	checkSame(t, "Tag of t", b.Tag("t", numbers()), api.ErrThere)
	checkSame(t, "Tag of u", b.Tag("u", numbers(0, 0, 0, 2)), api.ErrState)
}

func TestExamplesOfTexts(t *testing.T) {
	checkSame(t, "the empty string", condition.Hex(condition.Digest("")), "cbf29ce484222325")
	checkSame(t, "a", condition.Hex(condition.Digest("a")), "af63dc4c8601ec8c")
	b := condition.New()
	begin(t, b, 3, 0, 1)
	log := b.Log()
	checkSame(t, "Log", log[:len(log)-18], "begin 3 0")
	s, _ := exampleBook(t).Resolve("t", 15)
	checkSame(t, "Print", condition.Print(s), "snapshot t 15\n3 0 5\nend\n")
}
