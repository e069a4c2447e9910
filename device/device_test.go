package device_test

import (
	"errors"
	"fmt"
	"math"
	"reflect"
	"slices"
	"strings"
	"testing"

	"calends/api"
	"calends/device"
	"calends/fields"
	"calends/merge"
)

func done(t *testing.T, e error) {
	t.Helper()
	if e != nil {
		t.Fatal(e)
	}
}

func refused(t *testing.T, e error, want api.Errno) {
	t.Helper()
	if !errors.Is(e, want) || api.Place(e) != 0 {
		t.Fatalf("%v; want %v", e, want)
	}
}

// entry is the text of one.
func entry(uid string, rows ...string) string {
	l := slices.Concat([]string{"BEGIN:VCALENDAR", "VERSION:2.0", "BEGIN:VEVENT", "UID:" + uid, "DTSTART;VALUE=DATE:20000101"}, rows, []string{"END:VEVENT", "END:VCALENDAR", ""})
	return strings.Join(l, "\r\n")
}

func cell(thing, key, value string, stamp, dev int) api.Cell {
	return api.Cell{Thing: thing, Key: key, Value: value, Stamp: stamp, Dev: dev}
}

func lists(t *testing.T, d *device.Device, want ...api.Field) {
	t.Helper()
	if l := d.Listing(); !slices.Equal(l, want) {
		t.Fatalf("Listing: %q; want %q", l, want)
	}
}

func pushes(t *testing.T, d *device.Device, seq, token, cells int) api.Msg {
	t.Helper()
	m, ok := d.Push()
	if !ok || m.Kind != api.MsgPush || m.Seq != seq || m.Token != token || len(m.Cells) != cells {
		t.Fatalf("Push: %v, %v; want %d, %d, %d", m, ok, seq, token, cells)
	}
	return m
}

func takes(t *testing.T, d *device.Device, want bool, r api.Reply) {
	t.Helper()
	was, waits, token := d.State(), d.Waiting(), d.Token()
	if d.Take(r) != want {
		t.Fatalf("Take(%v): %v", r, !want)
	}
	if !want && (!slices.Equal(d.State(), was) || d.Waiting() != waits || d.Token() != token) {
		t.Fatalf("Take(%v) changes something", r)
	}
}

func TestExample(t *testing.T) {
	d := device.New(3)
	done(t, d.Put("a", entry("u")))
	pushes(t, d, 1, 0, 3)
	r := api.Reply{Kind: api.MsgPush, Dev: 3, Seq: 1}
	takes(t, d, true, r)
	takes(t, d, false, r)
	if m, ok := d.Push(); ok || !reflect.DeepEqual(m, api.Msg{}) {
		t.Fatal(m)
	}
	lists(t, d, api.Field{Key: "a", Value: entry("u")})
}

// P21.1

func TestNew(t *testing.T) {
	for id := -1; id < 11; id++ {
		if (device.New(id) != nil) != (id >= 1 && id <= api.MaxDevs) {
			t.Errorf("New(%d)", id)
		}
	}
	d := device.New(1)
	if len(d.State())+len(d.Listing())+d.Waiting()+d.Token() != 0 {
		t.Error("a new device knows something")
	}
}

func TestNothing(t *testing.T) {
	for _, d := range []*device.Device{nil, new(device.Device)} {
		if len(d.State())+len(d.Listing())+d.Waiting()+d.Token() != 0 || !reflect.DeepEqual(d.Pull(), api.Msg{}) || d.Take(api.Reply{Kind: api.MsgPull, Token: 1}) {
			t.Error("nothing has something")
		}
		refused(t, d.Put("", ""), api.ErrNil)
		refused(t, d.Drop(""), api.ErrNil)
		if m, ok := d.Push(); ok || !reflect.DeepEqual(m, api.Msg{}) {
			t.Error("nothing pushes something")
		}
	}
}

// P21.2

func TestPut(t *testing.T) {
	d := device.New(2)
	done(t, d.Put("a", entry("u", "SUMMARY:1")))
	want := []api.Cell{cell("a", "0kind", "VEVENT", 1, 2), cell("a", "0uid", "u", 1, 2), cell("a", "2start", "DTSTART;VALUE=DATE:20000101", 1, 2), cell("a", "7r/SUMMARY", "SUMMARY:1", 1, 2)}
	if !slices.Equal(d.State(), want) || d.Waiting() != 4 {
		t.Fatalf("%v", d.State())
	}
	done(t, d.Put("a", entry("u", "SUMMARY:2")))
	want[3] = cell("a", "7r/SUMMARY", "SUMMARY:2", 2, 2)
	if !slices.Equal(d.State(), want) || d.Waiting() != 4 {
		t.Fatalf("%v", d.State())
	}
	done(t, d.Put("a", entry("u")))
	want[3] = api.Cell{Thing: "a", Key: "7r/SUMMARY", Gone: true, Stamp: 3, Dev: 2}
	if !slices.Equal(d.State(), want) {
		t.Fatalf("%v", d.State())
	}
	// What is as it was makes no cells.
	done(t, d.Put("a", entry("u")))
	if !slices.Equal(d.State(), want) {
		t.Fatalf("%v", d.State())
	}
	done(t, d.Put(strings.Repeat("x", api.MaxThing), entry("v")))
	done(t, d.Drop("a"))
	lists(t, d, api.Field{Key: strings.Repeat("x", api.MaxThing), Value: entry("v")})
	refused(t, d.Drop("a"), api.ErrNone)
}

func TestPutRefuses(t *testing.T) {
	d := device.New(1)
	for _, thing := range []string{"", strings.Repeat("x", api.MaxThing+1)} {
		refused(t, d.Put(thing, "x"), api.ErrArg)
		refused(t, d.Drop(thing), api.ErrArg)
	}
	var f *api.Fault
	if e := d.Put("a", "BEGIN:X\n\nx"); !errors.As(e, &f) || f.At != 3 || f.Err != api.ErrForm {
		t.Fatal(e)
	}
	refused(t, d.Put("a", ""), api.ErrKind)
	refused(t, d.Put("a", entry("")), api.ErrArg)
	refused(t, d.Drop("a"), api.ErrNone)
	if d.Waiting() != 0 {
		t.Fatal("what is refused waits")
	}
}

func TestPutBounds(t *testing.T) {
	d := device.New(1)
	var rows []string
	for n := range 97 {
		rows = append(rows, fmt.Sprintf("X-%02d:1", n))
	}
	done(t, d.Put("a", entry("u", rows...)))
	done(t, d.Put("b", entry("v", rows[:47]...)))
	if d.Waiting() != api.MaxCells {
		t.Fatalf("%d", d.Waiting())
	}
	was := d.State()
	refused(t, d.Put("c", entry("w")), api.ErrMany)
	refused(t, d.Put("b", entry("v", append(rows[:47:47], "SUMMARY:x")...)), api.ErrMany)
	if !slices.Equal(d.State(), was) {
		t.Fatal("what is refused changes something")
	}
	// Other values in the same places are no more cells.
	done(t, d.Put("b", entry("w", rows[:47]...)))
	pushes(t, d, 1, 0, api.MaxCells)
	done(t, d.Put("c", entry("w")))

	d = device.New(1)
	base := len("a") + len("0kindVEVENT") + len("a") + len("0uidu") + len("a") + len("2startDTSTART;VALUE=DATE:20000101")
	note := func(n int) string {
		s := entry("u", "DESCRIPTION:"+strings.Repeat("x", 4000), "NOTE:"+strings.Repeat("x", 4000), "ORG:"+strings.Repeat("x", n))
		return s
	}
	n := api.MaxBytes - base - len("a7r/DESCRIPTIONDESCRIPTION:") - len("a7r/NOTENOTE:") - len("a7r/ORGORG:") - 8000
	refused(t, d.Put("a", note(n+1)), api.ErrLong)
	if d.Waiting() != 0 {
		t.Fatal("what is refused waits")
	}
	done(t, d.Put("a", note(n)))
}

func TestPutBeyondAllStamps(t *testing.T) {
	for stamp, ok := range map[int]bool{api.MaxStamp - 1: true, api.MaxStamp: false, math.MaxInt: false} {
		d := device.New(1)
		takes(t, d, true, api.Reply{Kind: api.MsgPull, Dev: 1, Token: 1, Cells: []api.Cell{cell("a", "k", "v", stamp, 2)}})
		e, f := d.Put("a", entry("u")), d.Drop("a")
		if ok {
			done(t, e)
			refused(t, f, api.ErrRange)
			if merge.Top(d.State()) != api.MaxStamp {
				t.Fatal("the stamp is another one")
			}
			continue
		}
		refused(t, e, api.ErrRange)
		refused(t, f, api.ErrRange)
	}
}

// P21.3

func TestPushAndPull(t *testing.T) {
	d := device.New(4)
	done(t, d.Put("a", entry("u")))
	takes(t, d, true, api.Reply{Kind: api.MsgPull, Dev: 4, Token: 7})
	m := pushes(t, d, 1, 7, 3)
	if d.Waiting() != 0 || m.Dev != 4 {
		t.Fatalf("%v", m)
	}
	takes(t, d, true, api.Reply{Kind: api.MsgPull, Dev: 4, Token: 9})
	done(t, d.Put("a", entry("u", "SUMMARY:1")))
	// The same push, as long as it is under way.
	m.Cells[0].Value = "z"
	again := pushes(t, d, 1, 7, 3)
	if again.Cells[0].Value != "VEVENT" || d.Waiting() != 1 {
		t.Fatalf("%v", again)
	}
	if p := d.Pull(); !reflect.DeepEqual(p, api.Msg{Kind: api.MsgPull, Dev: 4, Token: 9}) {
		t.Fatalf("%v", p)
	}
	takes(t, d, true, api.Reply{Kind: api.MsgPush, Dev: 4, Seq: 1})
	pushes(t, d, 2, 9, 1)
}

// P21.4

func TestTakeOfPushes(t *testing.T) {
	d := device.New(1)
	takes(t, d, false, api.Reply{Kind: api.MsgPush, Dev: 1})
	done(t, d.Put("a", entry("u")))
	takes(t, d, false, api.Reply{Kind: api.MsgPush, Dev: 1, Seq: 1})
	pushes(t, d, 1, 0, 3)
	for _, r := range []api.Reply{
		{Kind: api.MsgPush, Dev: 2, Seq: 1}, {Kind: api.MsgPush, Dev: 1, Seq: 2}, {Kind: api.MsgPush, Dev: 1, Seq: 0}, {Kind: api.MsgPush, Dev: 1, Seq: 1, Err: api.ErrPower},
		{Kind: api.MsgList, Dev: 1, Seq: 1}, {Kind: api.MsgGet, Dev: 1, Seq: 1}, {Kind: api.MsgQuery, Dev: 1, Seq: 1}, {Kind: 0, Dev: 1, Seq: 1},
	} {
		takes(t, d, false, r)
	}
	pushes(t, d, 1, 0, 3)
	done(t, d.Put("b", entry("v")))
	// Another error lets the push's cells go, and what waits stays.
	takes(t, d, true, api.Reply{Kind: api.MsgPush, Dev: 1, Seq: 1, Err: api.ErrQuota})
	lists(t, d, api.Field{Key: "b", Value: entry("v")})
	takes(t, d, false, api.Reply{Kind: api.MsgPush, Dev: 1, Seq: 1})
	pushes(t, d, 2, 0, 3)
	takes(t, d, true, api.Reply{Kind: api.MsgPush, Dev: 1, Seq: 2})
	lists(t, d, api.Field{Key: "b", Value: entry("v")})
}

func TestTakeOfPulls(t *testing.T) {
	d := device.New(1)
	a, b := cell("x", "k", "1", 5, 2), cell("x", "k", "2", 4, 2)
	pulled := func(err api.Errno, token, base int, cells ...api.Cell) api.Reply {
		return api.Reply{Kind: api.MsgPull, Dev: 1, Err: err, Token: token, Base: base, Cells: cells}
	}
	takes(t, d, false, pulled(0, 0, 0, a))
	takes(t, d, false, pulled(api.ErrFull, 1, 0, a))
	takes(t, d, false, pulled(api.ErrPower, 1, 0, a))
	takes(t, d, false, pulled(0, 1, 1, a))
	in := pulled(0, 5, 0, a)
	takes(t, d, true, in)
	in.Cells[0].Value = "z"
	if !slices.Equal(d.State(), []api.Cell{a}) || d.Token() != 5 {
		t.Fatalf("%v", d.State())
	}
	takes(t, d, false, pulled(0, 5, 0, b))
	takes(t, d, false, pulled(0, 4, 0, b))
	takes(t, d, false, pulled(0, 6, 4, b))
	takes(t, d, true, pulled(0, 6, 5, b))
	takes(t, d, true, pulled(0, 8, 0, b))
	if !slices.Equal(d.State(), []api.Cell{a}) || d.Token() != 8 {
		t.Fatalf("%v", d.State())
	}
	other := pulled(0, 9, 0)
	other.Dev = 2
	takes(t, d, false, other)
}

// P21.5 to P21.7

// dice are numbers that are the same in each run.
type dice uint64

func (d *dice) below(n int) int {
	*d = *d*6364136223846793005 + 1442695040888963407
	return int(uint64(*d)>>33) % n
}

func TestPlays(t *testing.T) {
	for seed := range 500 {
		r := dice(seed)
		d := device.New(1)
		known := d.State()
		for range 30 {
			thing := string(rune('a' + r.below(3)))
			switch r.below(6) {
			case 0, 1:
				text := entry(thing, strings.Repeat("SUMMARY:x\r\n", r.below(2))+fmt.Sprintf("X-%d:1", r.below(3)))
				done(t, d.Put(thing, text))
				l, _ := fields.Read(text)
				want, _ := fields.Build(l...)
				if !slices.Contains(d.Listing(), api.Field{Key: thing, Value: want}) {
					t.Fatalf("play %d: %q is not listed in %q", seed, want, d.Listing())
				}
			case 2:
				if e := d.Drop(thing); e != nil {
					refused(t, e, api.ErrNone)
				}
				if slices.ContainsFunc(d.Listing(), func(f api.Field) bool { return f.Key == thing }) {
					t.Fatalf("play %d: what is dropped is listed", seed)
				}
			case 3:
				d.Push()
			case 4:
				x := api.Reply{Kind: api.MsgPush, Dev: 1, Seq: 1 + r.below(6), Err: api.Errno(r.below(2) * 14)}
				if d.Take(x) {
					takes(t, d, false, x)
				}
			case 5:
				x := api.Reply{Kind: api.MsgPull, Dev: 1, Token: r.below(20), Base: r.below(3) * d.Token(), Cells: []api.Cell{cell(thing, "7x/X:1", "1", 1+r.below(30), 2)}}
				was := merge.Norm(append(known, x.Cells...)...)
				if d.Take(x) {
					takes(t, d, false, x)
					known = was
				}
			}
			if !merge.Below(known, d.State()) {
				t.Fatalf("play %d: what was known is not any more", seed)
			}
		}
	}
}
