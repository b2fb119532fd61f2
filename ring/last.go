package ring

// last are the last bytes of all that was put in, at most size.
type last struct {
	size  int
	all   int    // how many bytes were put in
	slots []byte // byte n of all stands at the place n modulo size; they grow up to size, as few rings are ever full
}

// count is how many bytes are there.
func (l *last) count() int { return min(l.all, l.size) }

// put: bytes behind those that are there.
func (l *last) put(b []byte) {
	l.all += len(b)
	l.grow()
	b = b[max(0, len(b)-l.size):]
	n := copy(l.slots[l.place(len(b)):], b)
	copy(l.slots, b[n:])
}

// grow makes room for the bytes that are to be there.
func (l *last) grow() {
	if l.count() <= len(l.slots) {
		return
	}
	slots := make([]byte, min(l.size, max(l.count(), 2*len(l.slots))))
	copy(slots, l.slots)
	l.slots = slots
}

// tail are the last n bytes.
func (l *last) tail(n int) []byte {
	b := make([]byte, n)
	ahead := copy(b, l.slots[l.place(n):])
	copy(b[ahead:], l.slots)
	return b
}

// place is where the last n bytes begin.
func (l *last) place(n int) int { return (l.all - n) % l.size }
