package snapshot

import "millpond/api"

// writer has the bytes that were written; there is room for all that come.
type writer []byte

// snapshot writes all bytes of a snapshot that may be.
func (w *writer) snapshot(h api.History, l []api.Entry) {
	w.bytes(head)
	w.number(h.ID, longSize)
	w.number(uint64(h.Offset), longSize)
	w.length(len(l))
	for _, e := range l {
		w.entry(e)
	}
	w.number(uint64(Sum(*w)), sumSize)
}

// entry writes an entry that may be.
func (w *writer) entry(e api.Entry) {
	w.number(uint64(e.V.Kind), kindSize)
	w.number(uint64(e.At), longSize)
	w.text(e.Key)
	w.value(e.V)
}

// value writes a value that may be, behind its kind.
func (w *writer) value(v api.Value) {
	switch v.Kind {
	case api.KString:
		w.text(v.S)
	case api.KSet:
		fallthrough // members stand as items do
	case api.KList:
		w.length(len(v.L))
		for _, x := range v.L {
			w.text(x)
		}
	case api.KZset:
		w.length(len(v.Z))
		for _, m := range v.Z {
			w.text(m.M)
			w.number(uint64(m.N), longSize)
		}
	case api.KHash:
		w.length(len(v.H))
		for _, f := range v.H {
			w.text(f.F)
			w.text(f.V)
		}
	}
}

// text writes a text's bytes.
func (w *writer) text(s string) {
	w.length(len(s))
	w.bytes(s)
}

// length writes how long a text is, or how many things come.
func (w *writer) length(n int) { w.number(uint64(n), lenSize) }

// number writes a number of so many bytes, the lowest one first.
func (w *writer) number(n uint64, size int) {
	for range size {
		*w = append(*w, byte(n))
		n >>= 8
	}
}

// bytes writes some bytes as they are.
func (w *writer) bytes(s string) { *w = append(*w, s...) }
