package readout_test

import (
	"fmt"
	"math"
	"math/rand"
	"strings"
	"testing"

	"hodoscope/api"
	"hodoscope/readout"
)

// P5.5 and P5.10: links.

func newLink(t *testing.T, room, credits int) *readout.Link {
	t.Helper()
	l, e := readout.NewLink(room, credits)
	if l == nil || e != api.OK {
		t.Fatalf("NewLink(%d, %d): error %d", room, credits, e)
	}
	return l
}

func checkWaiting(t *testing.T, l *readout.Link, want ...int) {
	t.Helper()
	queue, buffer, credits := l.Waiting()
	checkSame(t, "Waiting", [3]int{queue, buffer, credits}, [3]int(want))
}

func offer(t *testing.T, l *readout.Link, s string, want api.Errno) {
	t.Helper()
	if e := l.Offer(s); e != want {
		t.Errorf("Offer(%.20q): error %d, want %d", s, e, want)
	}
}

func take(t *testing.T, l *readout.Link, want string) {
	t.Helper()
	if s, ok := l.Take(); !ok || s != want {
		t.Errorf("Take: %.20q, %v, want %.20q", s, ok, want)
	}
}

func takeNothing(t *testing.T, l *readout.Link) {
	t.Helper()
	checkNothing(t, "Take", results(l.Take())...)
}

func TestNewLink(t *testing.T) {
	for _, n := range []int{1, 2, 255, 256} {
		checkWaiting(t, newLink(t, n, 1), 0, 0, 1)
		checkWaiting(t, newLink(t, 1, n), 0, 0, n)
	}
	for _, n := range outside(1, 256) {
		checkNoLink(t, n, 1)
		checkNoLink(t, 256, n)
		checkNoLink(t, n, n)
	}
}

func checkNoLink(t *testing.T, room, credits int) {
	t.Helper()
	if l, e := readout.NewLink(room, credits); l != nil || e != api.ErrArg {
		t.Errorf("NewLink(%d, %d): %v, error %d", room, credits, l, e)
	}
}

func TestOffer(t *testing.T) {
	l := newLink(t, 3, 1)
	long := strings.Repeat("x", 16404)
	offer(t, l, long+"x", api.ErrLong)
	checkWaiting(t, l, 0, 0, 1)
	offer(t, l, long, api.OK)
	offer(t, l, "", api.OK)
	offer(t, l, "a", api.OK)
	offer(t, l, "b", api.ErrFull)
	offer(t, l, long+"x", api.ErrLong)
	checkWaiting(t, l, 3, 0, 1)
	checkSame(t, "Send", l.Send(nil), true)
	offer(t, l, "c", api.OK)
	offer(t, l, "d", api.ErrFull)
	take(t, l, long)
	for _, s := range []string{"", "a", "c"} {
		checkSame(t, "Send", l.Send(nil), true)
		take(t, l, s)
	}
	checkWaiting(t, l, 0, 0, 1)
}

func TestSendAndTake(t *testing.T) {
	l := newLink(t, 9, 2)
	checkSame(t, "Send of nothing", l.Send([]int{1}), false)
	takeNothing(t, l)
	checkWaiting(t, l, 0, 0, 2)
	for _, s := range []string{"a", "b", "c", "d"} {
		offer(t, l, s, api.OK)
	}
	takeNothing(t, l)
	for _, sent := range []bool{true, true, false, false} {
		checkSame(t, "Send", l.Send(nil), sent)
	}
	checkWaiting(t, l, 2, 2, 0)
	take(t, l, "a")
	checkWaiting(t, l, 2, 1, 1)
	checkSame(t, "Send", l.Send(nil), true)
	checkSame(t, "Send without credit", l.Send([]int{7}), false)
	checkWaiting(t, l, 1, 2, 0)
	take(t, l, "b")
	take(t, l, "c")
	takeNothing(t, l)
	checkSame(t, "Send", l.Send(nil), true)
	take(t, l, "d")
	takeNothing(t, l)
	checkWaiting(t, l, 0, 0, 2)
}

func TestAsMuchAsMayBe(t *testing.T) {
	l := newLink(t, 256, 256)
	for round := range 3 {
		for i := range 256 {
			offer(t, l, fmt.Sprint(round, i), api.OK)
		}
		offer(t, l, "more", api.ErrFull)
		for range 256 {
			checkSame(t, "Send", l.Send(nil), true)
		}
		offer(t, l, "first", api.OK)
		checkSame(t, "Send", l.Send(nil), false)
		checkWaiting(t, l, 1, 256, 0)
		for i := range 256 {
			take(t, l, fmt.Sprint(round, i))
		}
		checkSame(t, "Send", l.Send(nil), true)
		take(t, l, "first")
	}
}

func TestFlips(t *testing.T) {
	for _, x := range []struct {
		s     string
		flips []int
		want  string
	}{
		{"a", []int{7}, "\x60"},
		{"a", nil, "a"},
		{"a", []int{0}, "\xe1"},
		{"\x00\x00\x00", []int{0, 8, 15, 17}, "\x80\x81\x40"},
		{"\x00\x00\x00", []int{23, 0}, "\x80\x00\x01"},
		{"\xff\xff", []int{3, 3}, "\xff\xff"},
		{"\xff\xff", []int{3, 12, 3, 3}, "\xef\xf7"},
		{"\xff\xff", []int{16, -1, 17, -8, 24, math.MaxInt, math.MinInt, math.MinInt + 7}, "\xff\xff"},
		{"\xff\xff", []int{15, 16, 0}, "\x7f\xfe"},
		{"", []int{0, 1, -1}, ""},
	} {
		l := newLink(t, 2, 2)
		offer(t, l, x.s, api.OK)
		offer(t, l, x.s, api.OK)
		checkSame(t, x, l.Send(x.flips), true)
		checkSame(t, x, l.Send(nil), true)
		take(t, l, x.want)
		take(t, l, x.s)
	}
}

// Flips that are not sent do nothing.
func TestFlipsWithoutCredit(t *testing.T) {
	l := newLink(t, 2, 1)
	offer(t, l, "a", api.OK)
	offer(t, l, "a", api.OK)
	checkSame(t, "Send", l.Send(nil), true)
	checkSame(t, "Send", l.Send([]int{7}), false)
	take(t, l, "a")
	checkSame(t, "Send", l.Send(nil), true)
	take(t, l, "a")
}

// Random calls: what is taken is what was offered, in order, with its bits inverted; nothing is lost, doubled or overtaken.
func TestLinksAgainstLists(t *testing.T) {
	r := rand.New(rand.NewSource(8))
	for range 200 {
		room, credits := between(r, 1, 5), between(r, 1, 5)
		l := newLink(t, room, credits)
		var queue, buffer []string
		for i := range 200 {
			switch between(r, 0, 2) {
			case 0:
				s := fmt.Sprint("string ", i)
				if len(queue) == room {
					offer(t, l, s, api.ErrFull)
				} else {
					offer(t, l, s, api.OK)
					queue = append(queue, s)
				}
			case 1:
				bit := between(r, -3, 99)
				can := len(queue) > 0 && len(buffer) < credits
				checkSame(t, "Send", l.Send([]int{bit}), can)
				if can {
					b := []byte(queue[0])
					if bit >= 0 && bit/8 < len(b) {
						b[bit/8] ^= 128 >> (bit % 8)
					}
					queue, buffer = queue[1:], append(buffer, string(b))
				}
			case 2:
				if len(buffer) == 0 {
					takeNothing(t, l)
				} else {
					take(t, l, buffer[0])
					buffer = buffer[1:]
				}
			}
			checkWaiting(t, l, len(queue), len(buffer), credits-len(buffer))
		}
	}
}
