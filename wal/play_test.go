package wal_test

import (
	"slices"
	"strings"
	"testing"

	"calends/api"
	"calends/disk"
	"calends/wal"
)

// dice are numbers that are the same in each run.
type dice uint64

func (d *dice) below(n int) int {
	*d = *d*6364136223846793005 + 1442695040888963407
	return int(uint64(*d)>>33) % n
}

func (d *dice) records() []string {
	var l []string
	for range d.below(4) {
		l = append(l, strings.Repeat(string(rune('a'+d.below(26))), d.below(200)))
	}
	return l
}

// found is a disk behind a crash that keeps what the dice tell.
func (d *dice) found(old *disk.Disk) *disk.Disk {
	var kept []int
	for _, at := range old.Dirty() {
		if d.below(2) == 0 {
			kept = append(kept, at)
		}
	}
	return old.Crash(d.below(old.Size()), d.below(api.Sector+1), kept...)
}

// plain is what the chapter says of a log: what counts, and what waits.
type plain struct {
	counts, waits []string
	turn          int
}

func size(records []string) int {
	n := 0
	for _, r := range records {
		n += 7 + len(r)
	}
	return n
}

// step does one call on a log and on the plain one, and tells what counts if the call is done.
func step(d *dice, l *wal.Log, p *plain, half int) (error, error, []string) {
	records := d.records()
	switch d.below(4) {
	case 0, 1:
		if size(p.counts)+size(p.waits)+size(records) > half {
			return l.Append(records...), api.ErrFull, p.counts
		}
		p.waits = append(p.waits, records...)
		return l.Append(records...), nil, p.counts
	case 2:
		next := slices.Concat(p.counts, p.waits)
		if len(p.waits) > 0 {
			p.turn++
		}
		p.waits = nil
		return l.Sync(), nil, next
	}
	if size(records) > half {
		return l.Compact(records...), api.ErrFull, p.counts
	}
	p.waits = nil
	p.turn++
	return l.Compact(records...), nil, records
}

// P3.2 to P3.7: whenever the power goes, and whatever a crash keeps, what is found is what counted ahead of the call or behind it; else the log is as the plain one.
func TestPlays(t *testing.T) {
	for seed := range 1500 {
		r := dice(seed)
		n := 6 + r.below(10)
		half := (n - 2) / 2 * api.Sector
		d := formatted(t, n)
		l, p := opened(t, d), &plain{turn: 1}
		for range 25 {
			limited := r.below(3) == 0
			if limited {
				d.Limit(r.below(7))
			}
			got, want, next := step(&r, l, p, half)
			if !d.Off() {
				d.Limit(-1)
				if got != want {
					t.Fatalf("play %d: %v; want %v", seed, got, want)
				}
				p.counts = next
				looks(t, l, p.turn, half-size(p.counts)-size(p.waits), len(p.waits), p.counts...)
				if r.below(5) > 0 {
					continue
				}
			} else {
				refused(t, got, api.ErrPower)
			}
			d = r.found(d)
			l = opened(t, d)
			if ahead, behind := slices.Equal(l.Records(), p.counts), slices.Equal(l.Records(), next); !ahead && !behind {
				t.Fatalf("play %d: neither what was ahead nor what was to come: %.99q", seed, l.Records())
			}
			p = &plain{counts: l.Records(), turn: l.Turn()}
			looks(t, l, p.turn, half-size(p.counts), 0, p.counts...)
		}
	}
}
