package readout

// writer makes bytes of numbers, the highest byte of each one first.
type writer struct{ bytes []byte }

func (w *writer) write(n, size int) {
	for i := size - 1; i >= 0; i-- {
		w.bytes = append(w.bytes, byte(n>>(8*i)))
	}
}

func (w *writer) one(n int)  { w.write(n, 1) }
func (w *writer) two(n int)  { w.write(n, 2) }
func (w *writer) four(n int) { w.write(n, 4) }
func (w *writer) six(n int)  { w.write(n, 6) }

// head returns what writes the numbers of a frame's head, in order.
func (w *writer) head() []func(int) {
	return []func(int){w.one, w.one, w.four, w.six, w.two}
}

// reader takes numbers from the beginning of bytes. There must be enough of them.
type reader struct{ rest string }

func (r *reader) read(size int) int {
	n := 0
	for i := range size {
		n = n<<8 | int(r.rest[i])
	}
	r.rest = r.rest[size:]
	return n
}

func (r *reader) one() int  { return r.read(1) }
func (r *reader) two() int  { return r.read(2) }
func (r *reader) four() int { return r.read(4) }
func (r *reader) six() int  { return r.read(6) }

// head returns what reads the numbers of a frame's head, in order.
func (r *reader) head() []func() int {
	return []func() int{r.one, r.one, r.four, r.six, r.two}
}
