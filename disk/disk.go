// Package disk is layer 1: a stand-in for a disk whose writes last from a flush on.
package disk

import (
	"maps"
	"slices"

	"calends/api"
)

// noLimit is the limit of a disk that has none.
const noLimit = -1

// sector is what stands in a sector: a value, so that no two disks share one.
type sector [api.Sector]byte

// Disk is sectors: of each the content that lasts, and of the dirty ones a new one.
type Disk struct {
	lasts []sector
	fresh map[int]sector
	left  int // acts that are still done; below 0: there is no limit
	off   bool
}

// use is what a call does with a disk.
type use int

// The uses: each may be refused for all that those behind it are refused for.
const (
	writing use = iota
	reading
	flushing
)

// New makes a disk of n sectors.
func New(n int) (*Disk, error) {
	if n < 1 || n > api.MaxSectors {
		return nil, api.ErrArg
	}
	return blank(n), nil
}

// Write gives a sector a new content, which lasts from the next flush on.
func (d *Disk) Write(at int, b []byte) error {
	if e := d.refusal(writing, at, len(b)); e != nil {
		return e
	}
	if e := d.act(); e != nil {
		return e
	}
	var s sector
	copy(s[:], b)
	d.fresh[at] = s
	return nil
}

// Read answers a sector's new content, or the one that lasts.
func (d *Disk) Read(at int) ([]byte, error) {
	if e := d.refusal(reading, at, 0); e != nil {
		return nil, e
	}
	s, dirty := d.fresh[at]
	if !dirty {
		s = d.lasts[at]
	}
	return s[:], nil
}

// Flush makes all new contents last.
func (d *Disk) Flush() error {
	if e := d.refusal(flushing, 0, 0); e != nil {
		return e
	}
	if e := d.act(); e != nil {
		return e
	}
	for at := range d.fresh {
		d.lay(d, at, api.Sector)
		delete(d.fresh, at)
	}
	return nil
}

// Dirty are the sectors that were written since the last flush, rising.
func (d *Disk) Dirty() []int {
	if !d.made() {
		return nil
	}
	return slices.Sorted(maps.Keys(d.fresh))
}

// Crash is the disk as it is found behind a crash: dirty sectors that are kept have their new content, a torn one the first cut bytes of it.
func (d *Disk) Crash(torn, cut int, kept ...int) *Disk {
	if !d.made() {
		return nil
	}
	found := blank(len(d.lasts))
	copy(found.lasts, d.lasts)
	d.lay(found, torn, cut)
	// Behind the torn one, since a sector that is both is kept whole.
	for _, at := range kept {
		d.lay(found, at, api.Sector)
	}
	return found
}

// Limit sets how many acts are still done; below 0: all.
func (d *Disk) Limit(n int) {
	if d.made() {
		d.left = n
	}
}

// Size is how many sectors there are.
func (d *Disk) Size() int {
	if !d.made() {
		return 0
	}
	return len(d.lasts)
}

// Off tells whether the power is gone.
func (d *Disk) Off() bool { return d.made() && d.off }

// blank is a disk of n sectors of noughts.
func blank(n int) *Disk {
	return &Disk{lasts: make([]sector, n), fresh: map[int]sector{}, left: noLimit}
}

// made tells whether a call made the disk: any such has a sector.
func (d *Disk) made() bool { return d != nil && len(d.lasts) > 0 }

// refusal is why a use of a sector, with so many bytes, can't be.
func (d *Disk) refusal(u use, at, bytes int) error {
	if !d.made() {
		return api.ErrNil
	}
	switch u {
	case writing:
		if bytes != api.Sector {
			return api.ErrArg
		}
		fallthrough
	case reading:
		if at < 0 || at >= len(d.lasts) {
			return api.ErrRange
		}
		fallthrough
	case flushing:
		if d.off {
			return api.ErrPower
		}
	}
	return nil
}

// act takes an act off the limit; behind the last one the power goes.
func (d *Disk) act() error {
	if d.left == 0 {
		d.off = true
		return api.ErrPower
	}
	if d.left > 0 {
		d.left--
	}
	return nil
}

// lay makes the first n bytes of a sector's new content, if it is dirty, last on a disk.
func (d *Disk) lay(onto *Disk, at, n int) {
	s, dirty := d.fresh[at]
	if dirty {
		copy(onto.lasts[at][:], s[:min(max(n, 0), api.Sector)])
	}
}
