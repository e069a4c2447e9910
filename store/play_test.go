package store_test

import (
	"errors"
	"reflect"
	"slices"
	"testing"

	"calends/api"
	"calends/disk"
	"calends/merge"
	"calends/store"
)

// dice are numbers that are the same in each run.
type dice uint64

func (d *dice) below(n int) int {
	*d = *d*6364136223846793005 + 1442695040888963407
	return int(uint64(*d)>>33) % n
}

func (d *dice) text(most int) string {
	b := make([]byte, d.below(most))
	for i := range b {
		b[i] = byte('a' + d.below(20))
	}
	return string(b)
}

func (d *dice) push(s *store.Store) api.Push {
	p := push(1+d.below(3), 0, d.below(6))
	p.Seq = s.Seq(p.Dev) + d.below(3)
	for range 1 + d.below(4) {
		c := cell(p.Dev, string(rune('x'+d.below(2))), string(rune('a'+d.below(4))), d.text(60), 1+d.below(9))
		if d.below(4) == 0 {
			c.Gone, c.Value = true, ""
		}
		p.Cells = append(p.Cells, c)
	}
	return p
}

// found is a disk behind a crash that keeps what the dice tell.
func (d *dice) found(old *disk.Disk) *disk.Disk {
	var kept []int
	for _, at := range old.Dirty() {
		if d.below(2) == 0 {
			kept = append(kept, at)
		}
	}
	return old.Crash(d.below(old.Size()), d.below(api.Sector+1), kept...)
}

// looks is all that can be told of a store.
type looks struct {
	State   []api.Cell
	History []api.Commit
	Seqs    [10]int
	Known   map[int][]api.Cell
	Room    int
}

func look(s *store.Store) looks {
	l := looks{State: s.State(), History: s.History(), Known: map[int][]api.Cell{}, Room: s.Room()}
	for dev := range l.Seqs {
		l.Seqs[dev] = s.Seq(dev)
	}
	for token := range 200 {
		if s.Known(token) {
			l.Known[token] = s.At(token)
		}
	}
	return l
}

// step does a call on a store, and tells the cells that it pushes.
func step(d *dice, s *store.Store) ([]api.Cell, error) {
	switch d.below(6) {
	case 0, 1:
		_, e := s.Issue()
		return nil, e
	case 2:
		return nil, s.Compact()
	}
	p := d.push(s)
	return p.Cells, s.Push(p)
}

// P19.5 to P19.7: the state is that of all pushes that were answered, known tokens tell what they told; whenever the power goes, the store is found as it was behind what was answered, or behind the call under way, too.
func TestPlays(t *testing.T) {
	for seed := range 600 {
		r := dice(seed)
		d := formatted(t, 6+r.below(40))
		s := opened(t, d)
		var all []api.Cell
		for range 30 {
			was := look(s)
			at := r
			if r.below(3) == 0 {
				d.Limit(r.below(8))
			}
			cells, e := step(&r, s)
			if errors.Is(e, api.ErrPower) {
				if now := look(s); !reflect.DeepEqual(now, was) {
					t.Fatalf("play %d: what is refused changes something: %v; want %v", seed, now, was)
				}
				d = r.found(d)
				s = opened(t, d)
				now := look(s)
				if !reflect.DeepEqual(now, was) {
					if !merge.Below(was.State, now.State) || !slices.Equal(now.State, merge.Join(was.State, cells)) {
						t.Fatalf("play %d, %v: %v; want %v, or that with %v", seed, at, now, was, cells)
					}
					all = append(all, cells...)
				}
				continue
			}
			d.Limit(-1)
			now := look(s)
			if e != nil {
				if !reflect.DeepEqual(now, was) {
					t.Fatalf("play %d: what is refused with %v changes something: %v; want %v", seed, e, now, was)
				}
				continue
			}
			all = append(all, cells...)
			if !slices.Equal(now.State, merge.Norm(all...)) {
				t.Fatalf("play %d: State %v; want that of %v", seed, now.State, all)
			}
			for token, state := range now.Known {
				if old, known := was.Known[token]; known && !slices.Equal(old, state) || !merge.Below(state, now.State) {
					t.Fatalf("play %d: token %d tells %v", seed, token, state)
				}
			}
			if again := look(opened(t, r.found(d))); !reflect.DeepEqual(again, now) {
				t.Fatalf("play %d: opened as %v; want %v", seed, again, now)
			}
		}
	}
}
