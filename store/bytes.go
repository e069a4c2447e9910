package store

import (
	"strings"

	"calends/api"
)

// writer gathers a record's bytes.
type writer struct{ strings.Builder }

// number writes a number in so many bytes, the lowest one first.
func (w *writer) number(n, size int) {
	for range size {
		w.WriteByte(byte(n))
		n >>= 8
	}
}

// text writes a text, and ahead of it, in so many bytes, how many it has.
func (w *writer) text(s string, size int) {
	w.number(len(s), size)
	w.WriteString(s)
}

// cell writes a cell, but its device.
func (w *writer) cell(c api.Cell) {
	gone := 0
	if c.Gone {
		gone = 1
	}
	w.number(gone, byteBytes)
	w.number(c.Stamp, stampBytes)
	w.text(c.Thing, byteBytes)
	w.text(c.Key, lenBytes)
	w.text(c.Value, lenBytes)
}

// reader takes a record's bytes apart; bad: they are not as they must be.
type reader struct {
	rest string
	bad  bool
}

// take takes so many bytes.
func (r *reader) take(n int) string {
	if n > len(r.rest) {
		r.bad = true
		return ""
	}
	s := r.rest[:n]
	r.rest = r.rest[n:]
	return s
}

// number reads a number of so many bytes, none below 0.
func (r *reader) number(size int) int {
	s := r.take(size)
	n := 0
	for at := range len(s) {
		n |= int(s[at]) << (8 * at)
	}
	if n < 0 {
		r.bad = true
		return 0
	}
	return n
}

// text reads a text.
func (r *reader) text(size int) string { return strings.Clone(r.take(r.number(size))) }

// cell reads a cell of a device.
func (r *reader) cell(dev int) api.Cell {
	gone := r.number(byteBytes)
	r.bad = r.bad || gone > 1
	return api.Cell{Gone: gone == 1, Dev: dev, Stamp: r.number(stampBytes), Thing: r.text(byteBytes), Key: r.text(lenBytes), Value: r.text(lenBytes)}
}
