package disk_test

import (
	"bytes"
	"errors"
	"slices"
	"testing"

	"calends/api"
	"calends/disk"
)

// plain is what the chapter says of a disk, in the plainest way: of each sector what lasts, what is read, and whether it is dirty.
type plain struct {
	lasts, now [][]byte
	dirty      []bool
	left       int
	off        bool
}

func newPlain(n int) *plain {
	p := &plain{left: -1}
	for range n {
		p.lasts = append(p.lasts, full(0))
		p.now = append(p.now, full(0))
		p.dirty = append(p.dirty, false)
	}
	return p
}

func (p *plain) there(at int) bool { return at >= 0 && at < len(p.now) }

func (p *plain) act() error {
	if p.off || p.left == 0 {
		p.off = true
		return api.ErrPower
	}
	p.left--
	return nil
}

func (p *plain) write(at int, b []byte) error {
	if len(b) != api.Sector {
		return api.ErrArg
	}
	if !p.there(at) {
		return api.ErrRange
	}
	if e := p.act(); e != nil {
		return e
	}
	p.now[at], p.dirty[at] = bytes.Clone(b), true
	return nil
}

func (p *plain) flush() error {
	if e := p.act(); e != nil {
		return e
	}
	for at := range p.now {
		p.lasts[at], p.dirty[at] = p.now[at], false
	}
	return nil
}

func (p *plain) crash(torn, cut int, kept []int) *plain {
	c := newPlain(len(p.now))
	for at := range p.now {
		b := bytes.Clone(p.lasts[at])
		for i := range b {
			if p.dirty[at] && (slices.Contains(kept, at) || at == torn && i < cut) {
				b[i] = p.now[at][i]
			}
		}
		c.lasts[at], c.now[at] = b, b
	}
	return c
}

// dice are numbers that are the same in each run.
type dice uint64

func (d *dice) below(n int) int {
	*d = *d*6364136223846793005 + 1442695040888963407
	return int(uint64(*d) >> 33 % uint64(n))
}

func (d *dice) list(n int) []int {
	l := make([]int, d.below(n))
	for i := range l {
		l[i] = d.below(n+2) - 1
	}
	return l
}

func agree(t *testing.T, d *disk.Disk, p *plain) {
	t.Helper()
	var want []int
	for at := -1; at <= len(p.now); at++ {
		b, e := d.Read(at)
		switch {
		case !p.there(at):
			if !errors.Is(e, api.ErrRange) || len(b) != 0 {
				t.Fatalf("Read(%d): %d bytes, %v", at, len(b), e)
			}
		case p.off:
			if !errors.Is(e, api.ErrPower) || len(b) != 0 {
				t.Fatalf("Read(%d): %d bytes, %v", at, len(b), e)
			}
		case e != nil || !bytes.Equal(b, p.now[at]):
			t.Fatalf("Read(%d): % x, %v; want % x", at, b, e, p.now[at])
		}
		if p.there(at) && p.dirty[at] {
			want = append(want, at)
		}
	}
	dirty(t, d, want...)
	if d.Off() != p.off || d.Size() != len(p.now) {
		t.Fatalf("off: %v, size: %d; want %v, %d", d.Off(), d.Size(), p.off, len(p.now))
	}
}

// P1.1 to P1.7: whatever is done with a disk and what its crashes leave, all of them answer as the plain ones do.
func TestPlays(t *testing.T) {
	for seed := range 300 {
		r := dice(seed)
		n := 1 + r.below(6)
		disks, plains := []*disk.Disk{made(t, n)}, []*plain{newPlain(n)}
		for range 60 {
			i := r.below(len(disks))
			d, p := disks[i], plains[i]
			var got, want error
			switch k := r.below(16); {
			case k < 8:
				b := bytes.Repeat([]byte{byte(1 + r.below(255))}, api.Sector)
				if r.below(10) == 0 {
					b = b[:r.below(api.Sector)]
				}
				at := r.below(n+2) - 1
				got, want = d.Write(at, b), p.write(at, b)
			case k < 11:
				got, want = d.Flush(), p.flush()
			case k < 12:
				p.left = r.below(8) - 1
				d.Limit(p.left)
			default:
				torn, cut, kept := r.below(n+2)-1, r.below(api.Sector+20)-10, r.list(n)
				disks = append(disks, d.Crash(torn, cut, kept...))
				plains = append(plains, p.crash(torn, cut, kept))
			}
			if got != want {
				t.Fatalf("play %d: %v; want %v", seed, got, want)
			}
		}
		for i := range disks {
			agree(t, disks[i], plains[i])
		}
	}
}
