package world_test

import (
	"errors"
	"fmt"
	"math"
	"slices"
	"strings"
	"testing"

	"calends/api"
	"calends/fields"
	"calends/world"
)

func made(t *testing.T, sectors, quota, devices int) *world.World {
	t.Helper()
	w, e := world.New(sectors, quota, devices)
	if e != nil || w == nil || !w.Up() || w.Net() != 0 {
		t.Fatalf("New: %v, %v", w, e)
	}
	return w
}

// does does a step, and tells whether it is answered so (0: without an error).
func does(t *testing.T, w *world.World, s api.Step, want api.Errno) {
	t.Helper()
	e := w.Do(s)
	if want == 0 && e != nil || want != 0 && !errors.Is(e, want) {
		t.Fatalf("%+v: %v; want %v", s, e, want)
	}
}

// entry is the text of one.
func entry(uid string, rows ...string) string {
	l := slices.Concat([]string{"BEGIN:VCALENDAR", "VERSION:2.0", "BEGIN:VEVENT", "UID:" + uid, "DTSTART;VALUE=DATE:20000101"}, rows, []string{"END:VEVENT", "END:VCALENDAR", ""})
	return strings.Join(l, "\r\n")
}

func put(dev int, thing, text string) api.Step {
	return api.Step{Kind: api.StepPut, Dev: dev, Thing: thing, Text: text}
}

func step(kind, dev, n int) api.Step { return api.Step{Kind: kind, Dev: dev, N: n} }

func lists(t *testing.T, w *world.World, dev int, want ...api.Field) {
	t.Helper()
	if l := w.Listing(dev); !slices.Equal(l, want) {
		t.Fatalf("Listing(%d): %q; want %q", dev, l, want)
	}
}

func field(key, value string) api.Field { return api.Field{Key: key, Value: value} }

func TestExample(t *testing.T) {
	w := made(t, 400, 9000, 2)
	does(t, w, put(1, "x", entry("a")), 0)
	does(t, w, step(api.StepSettle, 0, 0), 0)
	for dev := range 3 {
		lists(t, w, dev, field("x", entry("a")))
	}
}

// P22.1

func TestNewRefuses(t *testing.T) {
	for _, c := range []struct {
		sectors, quota, devices int
		want                    api.Errno
	}{{0, 5, 0, api.ErrArg}, {10, 5, 0, api.ErrArg}, {10, 5, 9, api.ErrArg}, {10, 5, -1, api.ErrArg}, {5, 5, 1, api.ErrArg}, {10, -1, 1, api.ErrArg}} {
		w, e := world.New(c.sectors, c.quota, c.devices)
		if !errors.Is(e, c.want) || w != nil {
			t.Errorf("New: %v, %v", w, e)
		}
		all, listings, e := world.Run(api.Play{Sectors: c.sectors, Quota: c.quota, Devices: c.devices, Steps: make([]api.Step, 2)})
		if !errors.Is(e, c.want) || all != nil || listings != nil {
			t.Errorf("Run: %v, %v, %v", all, listings, e)
		}
	}
	made(t, 6, 0, 8)
}

func TestLooksOfNothing(t *testing.T) {
	for _, w := range []*world.World{nil, new(world.World)} {
		if w.Up() || w.Net() != 0 || len(w.State(0))+len(w.Listing(0))+len(w.State(1))+len(w.Listing(1)) != 0 {
			t.Fatal("nothing has something")
		}
		does(t, w, api.Step{Kind: 99}, api.ErrNil)
	}
	w := made(t, 400, 9000, 2)
	does(t, w, put(2, "x", entry("a")), 0)
	for _, dev := range []int{-1, 3, math.MaxInt, math.MinInt} {
		if len(w.State(dev))+len(w.Listing(dev)) != 0 {
			t.Fatalf("there is a device %d", dev)
		}
	}
	if len(w.State(2)) != 3 || len(w.State(1))+len(w.State(0)) != 0 {
		t.Fatal("State")
	}
}

// P22.2

func TestDoRefuses(t *testing.T) {
	w := made(t, 400, 9000, 2)
	for _, kind := range []int{0, -1, 11} {
		does(t, w, api.Step{Kind: kind, Dev: 9}, api.ErrKind)
	}
	for kind := api.StepPut; kind <= api.StepPull; kind++ {
		for _, dev := range []int{0, -1, 3} {
			does(t, w, step(kind, dev, 0), api.ErrNone)
		}
	}
	for kind := api.StepDeliver; kind <= api.StepDouble; kind++ {
		does(t, w, step(kind, 9, 0), api.ErrNone)
	}
	does(t, w, put(1, "", ""), api.ErrArg)
	does(t, w, put(1, "x", ""), api.ErrKind)
	var f *api.Fault
	if e := w.Do(put(1, "x", "x")); !errors.As(e, &f) || f.At != 1 {
		t.Fatal(e)
	}
	does(t, w, api.Step{Kind: api.StepDrop, Dev: 1, Thing: "x"}, api.ErrNone)
	does(t, w, step(api.StepPush, 1, 0), api.ErrNone)
}

func TestFullNet(t *testing.T) {
	w := made(t, 400, 9000, 2)
	does(t, w, put(1, "x", entry("a")), 0)
	for range api.MaxNet {
		does(t, w, step(api.StepPull, 2, 0), 0)
	}
	for _, kind := range []int{api.StepPush, api.StepPull, api.StepDouble} {
		does(t, w, step(kind, 1, 0), api.ErrFull)
		does(t, w, step(kind, 2, 0), api.ErrFull)
	}
	does(t, w, step(api.StepPush, 3, 0), api.ErrNone)
	// A delivered message's reply has the place that it leaves.
	does(t, w, step(api.StepDeliver, 0, 0), 0)
	if w.Net() != api.MaxNet {
		t.Fatalf("%d", w.Net())
	}
	does(t, w, step(api.StepLose, 0, 5), 0)
	does(t, w, step(api.StepPush, 1, 0), 0)
	if w.Net() != api.MaxNet {
		t.Fatalf("%d", w.Net())
	}
}

func TestNetIsARow(t *testing.T) {
	w := made(t, 400, 9000, 3)
	for dev := 1; dev <= 3; dev++ {
		does(t, w, put(dev, fmt.Sprint(dev), entry(fmt.Sprint(dev))), 0)
		does(t, w, step(api.StepPush, dev, 0), 0)
	}
	// The row: 1 2 3. The one at -1 is the last.
	does(t, w, step(api.StepDeliver, 0, -1), 0) // 1 2 r3
	lists(t, w, 0, field("3", entry("3")))
	does(t, w, step(api.StepLose, 0, 3), 0)    // 2 r3
	does(t, w, step(api.StepDouble, 0, -4), 0) // 2 r3 2
	does(t, w, step(api.StepDeliver, 0, 2), 0) // 2 r3 r2
	lists(t, w, 0, field("2", entry("2")), field("3", entry("3")))
	does(t, w, step(api.StepDeliver, 0, 7), 0) // 2 r2
	if w.Net() != 2 {
		t.Fatalf("%d", w.Net())
	}
	does(t, w, step(api.StepPush, 3, 0), api.ErrNone)
	does(t, w, step(api.StepDeliver, 0, math.MinInt), 0) // r2 r2
	does(t, w, step(api.StepDeliver, 0, 0), 0)
	does(t, w, step(api.StepPush, 2, 0), api.ErrNone)
	does(t, w, step(api.StepDeliver, 0, math.MaxInt), 0)
	// What was lost is under way at its device still.
	does(t, w, step(api.StepPush, 1, 0), 0)
	if w.Net() != 1 {
		t.Fatalf("%d", w.Net())
	}
}

func TestPulls(t *testing.T) {
	w := made(t, 400, 9000, 2)
	does(t, w, put(1, "x", entry("a")), 0)
	does(t, w, step(api.StepPush, 1, 0), 0)
	does(t, w, step(api.StepPull, 2, 0), 0)
	does(t, w, step(api.StepDeliver, 0, 0), 0)
	does(t, w, step(api.StepDeliver, 0, 0), 0)
	does(t, w, step(api.StepDeliver, 0, 1), 0)
	lists(t, w, 2, field("x", entry("a")))
}

func TestPower(t *testing.T) {
	w := made(t, 400, 9000, 1)
	does(t, w, put(1, "x", entry("a")), 0)
	does(t, w, step(api.StepPush, 1, 0), 0)
	does(t, w, step(api.StepLimit, 0, 1), 0)
	does(t, w, step(api.StepDeliver, 0, 0), 0)
	if w.Up() || w.Net() != 0 {
		t.Fatal("a reply that tells of no power is under way")
	}
	does(t, w, step(api.StepSettle, 0, 0), api.ErrPower)
	does(t, w, api.Step{Kind: api.StepCrash, N: -1}, 0)
	lists(t, w, 0)
	does(t, w, step(api.StepLimit, 0, 0), 0)
	does(t, w, step(api.StepSettle, 0, 0), api.ErrPower)
	does(t, w, api.Step{Kind: api.StepCrash, N: -1}, 0)
	does(t, w, step(api.StepSettle, 0, 0), 0)
	lists(t, w, 0, field("x", entry("a")))
	// A crash tells which dirty sectors are kept: here the power goes once all is laid but the last flush.
	does(t, w, put(1, "x", entry("a", "SUMMARY:1")), 0)
	does(t, w, step(api.StepLimit, 0, 3), 0)
	does(t, w, step(api.StepSettle, 0, 0), api.ErrPower)
	does(t, w, api.Step{Kind: api.StepCrash, N: -1, Kept: []int{0, 1}}, 0)
	lists(t, w, 0, field("x", entry("a", "SUMMARY:1")))
}

func TestSettle(t *testing.T) {
	w := made(t, 400, 9000, 3)
	does(t, w, put(1, "x", entry("a")), 0)
	does(t, w, step(api.StepPush, 1, 0), 0)
	does(t, w, put(1, "x", entry("a", "SUMMARY:1")), 0)
	does(t, w, put(3, "y", entry("b")), 0)
	does(t, w, step(api.StepSettle, 0, 0), 0)
	if w.Net() != 1 {
		t.Fatal("the net does not stay as it is")
	}
	for dev := range 4 {
		lists(t, w, dev, field("x", entry("a", "SUMMARY:1")), field("y", entry("b")))
	}
	// What is refused is let go, and settled then.
	small := made(t, 400, 40, 2)
	does(t, small, put(1, "x", entry("a")), 0)
	does(t, small, step(api.StepSettle, 0, 0), 0)
	for dev := range 3 {
		lists(t, small, dev)
	}
}

// P22.3

func TestRun(t *testing.T) {
	all, listings, e := world.Run(api.Play{Sectors: 400, Quota: 9000, Devices: 2, Steps: []api.Step{put(1, "x", entry("a")), put(3, "x", ""), step(99, 0, 0), step(api.StepPush, 2, 0), step(api.StepSettle, 0, 0), put(2, "y", entry("b"))}})
	if e != nil || len(all) != 6 || len(listings) != 3 {
		t.Fatalf("%v, %v, %v", all, listings, e)
	}
	for at, want := range []api.Errno{0, api.ErrNone, api.ErrKind, api.ErrNone, 0, 0} {
		if (all[at] == nil) != (want == 0) || want != 0 && !errors.Is(all[at], want) {
			t.Errorf("step %d: %v; want %v", at, all[at], want)
		}
	}
	x, y := field("x", entry("a")), field("y", entry("b"))
	if !slices.Equal(listings[0], []api.Field{x}) || !slices.Equal(listings[1], []api.Field{x}) || !slices.Equal(listings[2], []api.Field{x, y}) {
		t.Fatalf("%v", listings)
	}
	if all, listings, e := world.Run(api.Play{Sectors: 6, Devices: 1}); len(all) != 0 || len(listings) != 2 || e != nil {
		t.Fatalf("%v, %v, %v", all, listings, e)
	}
}

// What two devices do to different fields is done, all of it.
func TestFieldByField(t *testing.T) {
	w := made(t, 400, 9000, 2)
	text := entry("a", "SUMMARY:x")
	does(t, w, put(1, "x", text), 0)
	does(t, w, put(2, "x", text), 0)
	does(t, w, put(1, "x", entry("a", "LOCATION:here", "SUMMARY:x")), 0)
	does(t, w, put(2, "x", entry("a", "STATUS:CONFIRMED", "SUMMARY:x")), 0)
	does(t, w, step(api.StepSettle, 0, 0), 0)
	for dev := range 3 {
		lists(t, w, dev, field("x", entry("a", "LOCATION:here", "STATUS:CONFIRMED", "SUMMARY:x")))
	}
	if _, e := fields.Read(w.Listing(0)[0].Value); e != nil {
		t.Fatal(e)
	}
}
