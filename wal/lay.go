package wal

import (
	"errors"

	"calends/api"
	"calends/disk"
	"calends/flaw"
	"calends/frame"
)

// What a head's sector has, and where.
const (
	turnBytes  = 8
	halfAt     = turnBytes
	countAt    = halfAt + 1
	countBytes = 4
	restAt     = countAt + countBytes
	againAt    = api.Sector - turnBytes
	maxTurn    = 1 << 40
)

// head tells which half counts, and how many bytes of that.
type head struct {
	turn, half, bytes int
}

// step is one of those by which a head comes to count.
type step int

// The steps, in their order: a flush parts what a head tells of from the head.
const (
	blanking step = iota
	laying
	turning
)

// halfBytes is how many bytes a half of a disk has.
func halfBytes(d *disk.Disk) int { return halfSectors(d) * api.Sector }

func halfSectors(d *disk.Disk) int { return (d.Size() - heads) / 2 }

// firstSector is where a half begins.
func firstSector(d *disk.Disk, half int) int { return heads + half*halfSectors(d) }

// lay does the steps from one of them on: the bytes of a head's half behind those that counted, then the head.
func lay(d *disk.Disk, from step, bytes string, h head) error {
	switch from {
	case blanking:
		for at := range heads {
			if e := d.Write(at, make([]byte, api.Sector)); e != nil {
				return flaw.In("the heads are blanked", e)
			}
		}
		fallthrough
	case laying:
		if e := layBytes(d, bytes, h); e != nil {
			return flaw.In("bytes are laid", e)
		}
		if e := d.Flush(); e != nil {
			return flaw.In("bytes are flushed", e)
		}
		fallthrough
	case turning:
		if e := d.Write(h.turn%heads, h.sector()); e != nil {
			return flaw.In("the head is laid", e)
		}
		if e := d.Flush(); e != nil {
			return flaw.In("the head is flushed", e)
		}
	}
	return nil
}

// layBytes writes the sectors in which the last bytes of those that a head counts lie.
func layBytes(d *disk.Disk, bytes string, h head) error {
	at := h.bytes - len(bytes)
	for len(bytes) > 0 {
		sector := firstSector(d, h.half) + at/api.Sector
		content := make([]byte, api.Sector)
		if at%api.Sector > 0 {
			// What counts already stays as it is, whatever is torn.
			old, e := d.Read(sector)
			if e != nil {
				return e
			}
			copy(content, old[:at%api.Sector])
		}
		n := copy(content[at%api.Sector:], bytes)
		if e := d.Write(sector, content); e != nil {
			return e
		}
		bytes = bytes[n:]
		at += n
	}
	return nil
}

// write lays records behind the bytes of the next head's half that stay, and then that head.
func (l *Log) write(next head, stay int, records []string) error {
	bytes, e := frame.Pack(records...)
	if e != nil {
		return e
	}
	next.bytes = stay + len(bytes)
	if e := lay(l.disk, laying, bytes, next); e != nil {
		l.dead = l.dead || errors.Is(e, api.ErrPower)
		return e
	}
	l.head = next
	return nil
}

// latest is the head with the greater turn.
func latest(d *disk.Disk) (head, error) {
	var best head
	for at := range heads {
		b, e := d.Read(at)
		if e != nil {
			return head{}, flaw.In("the heads are read", e)
		}
		h, ok := headOf(b)
		if ok && h.turn%heads == at && h.turn > best.turn {
			best = h
		}
	}
	if best.turn == 0 {
		return head{}, api.ErrBroken
	}
	return best, nil
}

// load is the bytes that a head counts.
func load(d *disk.Disk, h head) (string, error) {
	var bytes []byte
	for sector := firstSector(d, h.half); len(bytes) < h.bytes; sector++ {
		b, e := d.Read(sector)
		if e != nil {
			return "", flaw.In("bytes are read", e)
		}
		bytes = append(bytes, b...)
	}
	return string(bytes[:h.bytes]), nil
}

// sector is a head's.
func (h head) sector() []byte {
	b := make([]byte, api.Sector)
	put(b[:turnBytes], h.turn)
	b[halfAt] = byte(h.half)
	put(b[countAt:restAt], h.bytes)
	put(b[againAt:], h.turn)
	return b
}

// headOf is the head that a sector holds.
func headOf(b []byte) (head, bool) {
	h := head{turn: number(b[:turnBytes]), half: int(b[halfAt]), bytes: number(b[countAt:restAt])}
	right := h.turn >= 1 && h.turn <= maxTurn && h.half <= 1 && number(b[againAt:]) == h.turn
	for _, c := range b[restAt:againAt] {
		right = right && c == 0
	}
	return h, right
}

// put lays a number into all of some bytes, the lowest one first.
func put(b []byte, n int) {
	for at := range b {
		b[at] = byte(n >> (8 * at))
	}
}

// number is the one that bytes hold.
func number(b []byte) int {
	n := 0
	for at := range b {
		n |= int(b[at]) << (8 * at)
	}
	return n
}
