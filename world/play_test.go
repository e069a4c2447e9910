package world_test

import (
	"errors"
	"fmt"
	"slices"
	"testing"

	"calends/api"
	"calends/merge"
	"calends/world"
)

// dice are numbers that are the same in each run.
type dice uint64

func (d *dice) below(n int) int {
	*d = *d*6364136223846793005 + 1442695040888963407
	return int(uint64(*d)>>33) % n
}

func (d *dice) step(devices int) api.Step {
	dev, thing := 1+d.below(devices), string(rune('x'+d.below(3)))
	switch d.below(12) {
	case 0, 1, 2:
		return put(dev, thing, entry(string(rune('a'+d.below(3))), fmt.Sprintf("LOCATION:%d", d.below(3)), fmt.Sprintf("SUMMARY:%d", d.below(9))))
	case 3:
		return api.Step{Kind: api.StepDrop, Dev: dev, Thing: thing}
	case 4:
		return step(api.StepPush, dev, 0)
	case 5:
		return step(api.StepPull, dev, 0)
	case 6, 7:
		return step(api.StepDeliver, 0, d.below(9)-2)
	case 8:
		return step(api.StepLose, 0, d.below(9))
	case 9:
		return step(api.StepDouble, 0, d.below(9))
	case 10:
		return step(api.StepLimit, 0, d.below(60)-1)
	}
	return api.Step{Kind: api.StepCrash, N: d.below(12), Cut: d.below(257), Kept: []int{0, d.below(12), d.below(12)}}
}

// settled brings all that is left in order: the power is there, the server up, and all is pushed and pulled.
func settled(t *testing.T, w *world.World) {
	t.Helper()
	does(t, w, step(api.StepLimit, 0, -1), 0)
	if !w.Up() {
		does(t, w, api.Step{Kind: api.StepCrash, N: -1}, 0)
	}
	does(t, w, step(api.StepSettle, 0, 0), 0)
	does(t, w, step(api.StepSettle, 0, 0), 0)
}

// P22.4 to P22.7, P0.3 and P0.5: whatever is lost, doubled, late or refused, and whenever the power goes, all settles to one outcome, which has what any replica of a device ever had and was not refused.
func TestPlays(t *testing.T) {
	for seed := range 300 {
		d := dice(seed)
		devices := 1 + d.below(4)
		w := made(t, 100, 100000, devices)
		var put, done []api.Cell
		for range 60 {
			was := w.State(0)
			s := d.step(devices)
			e := w.Do(s)
			if e == nil && s.Kind <= api.StepDrop {
				put = merge.Join(put, w.State(s.Dev))
			}
			if w.Up() {
				// What the server has once answered is there behind every crash.
				done = merge.Join(done, was)
				if s.Kind == api.StepCrash && !merge.Below(was, w.State(0)) {
					t.Fatalf("play %d: %+v: the server lost something", seed, s)
				}
			}
			for dev := range devices + 1 {
				if !merge.Below(w.State(dev), merge.Join(put, w.State(0))) {
					t.Fatalf("play %d: %+v: %d knows what nobody put", seed, s, dev)
				}
			}
		}
		settled(t, w)
		if !merge.Below(done, w.State(0)) {
			t.Fatalf("play %d: what was there is not any more", seed)
		}
		for dev := 1; dev <= devices; dev++ {
			if !slices.Equal(w.State(dev), w.State(0)) || !slices.Equal(w.Listing(dev), w.Listing(0)) {
				t.Fatalf("play %d: %d has %v; the server %v", seed, dev, w.State(dev), w.State(0))
			}
		}
		// Nothing was refused: so all that was put is there, the last of it on top.
		if !slices.Equal(w.State(0), put) {
			t.Fatalf("play %d: %v; want %v", seed, w.State(0), put)
		}
	}
}

// P22.6: of what is late or doubled nothing changes what is settled.
func TestLateOnesChangeNothing(t *testing.T) {
	for seed := range 100 {
		d := dice(seed)
		w := made(t, 400, 100000, 3)
		for range 40 {
			if s := d.step(3); s.Kind < api.StepLimit {
				if e := w.Do(s); e != nil && errors.Is(e, api.ErrPower) {
					t.Fatal(e)
				}
			}
		}
		settled(t, w)
		var want [][]api.Cell
		for dev := range 4 {
			want = append(want, w.State(dev))
		}
		for w.Net() > 0 {
			does(t, w, step(api.StepDeliver, 0, d.below(9)), 0)
		}
		for dev := range 4 {
			if !slices.Equal(w.State(dev), want[dev]) {
				t.Fatalf("play %d: %d has %v; want %v", seed, dev, w.State(dev), want[dev])
			}
		}
	}
}
