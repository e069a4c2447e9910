package busy_test

import (
	"errors"
	"math"
	"reflect"
	"slices"
	"strings"
	"testing"

	"calends/api"
	"calends/busy"
	"calends/when"
)

func at(s string) api.Time {
	t, e := when.Parse(s)
	if e != nil {
		panic(s)
	}
	return t
}

// hour is a time of the first days of 2000.
func hour(n int) api.Time { return minute(60 * n) }

func minute(n int) api.Time {
	return when.At(when.Seconds(at("20000101"))+60*n, api.Time{UTC: true})
}

func b(kind, from, to int) api.Busy { return api.Busy{Kind: kind, From: hour(from), To: hour(to)} }

const no, maybe, yes, never = 0, api.BusyTentative, api.BusyYes, api.BusyUnavailable

func is(t *testing.T, what string, got []api.Busy, want ...api.Busy) {
	t.Helper()
	if !slices.Equal(got, want) {
		t.Fatalf("%s: %v; want %v", what, got, want)
	}
}

// wrong are busy times that are not right.
func wrong() []api.Busy {
	return []api.Busy{{}, b(0, 1, 2), b(4, 1, 2), b(-1, 1, 2), b(yes, 2, 1), b(yes, 1, 1), {Kind: yes, From: at("20000101T000000"), To: hour(1)}, {Kind: yes, From: hour(0), To: at("20000102")}, {Kind: yes, From: hour(0)}, {Kind: yes, To: hour(1)}, {Kind: yes, From: api.Time{UTC: true}, To: hour(1)}, {Kind: yes, From: hour(0), To: api.Time{UTC: true}}}
}

// entry is the text of one at 10:00 of 2000-01-01.
func entry(rows ...string) string {
	return strings.Join(slices.Concat([]string{"BEGIN:VCALENDAR", "VERSION:2.0", "BEGIN:VEVENT", "UID:u", "DTSTART:20000101T100000Z"}, rows, []string{"END:VEVENT", "END:VCALENDAR"}), "\n")
}

// P24.1

func TestMerge(t *testing.T) {
	is(t, "nothing", busy.Merge())
	is(t, "the example", busy.Merge(b(yes, 1, 3), b(maybe, 2, 4)), b(yes, 1, 3), b(maybe, 3, 4))
	is(t, "side by side", busy.Merge(b(yes, 2, 3), b(yes, 1, 2)), b(yes, 1, 3))
	is(t, "side by side of two kinds", busy.Merge(b(yes, 2, 3), b(maybe, 1, 2)), b(maybe, 1, 2), b(yes, 2, 3))
	is(t, "apart", busy.Merge(b(yes, 3, 4), b(yes, 1, 2)), b(yes, 1, 2), b(yes, 3, 4))
	is(t, "within", busy.Merge(b(never, 3, 4), b(maybe, 1, 6), b(yes, 2, 5)), b(maybe, 1, 2), b(yes, 2, 3), b(never, 3, 4), b(yes, 4, 5), b(maybe, 5, 6))
	is(t, "hidden", busy.Merge(b(maybe, 2, 3), b(yes, 1, 4), b(yes, 1, 4)), b(yes, 1, 4))
	is(t, "two that are one", busy.Merge(b(maybe, 1, 3), b(maybe, 2, 5), b(yes, 5, 6), b(maybe, 0, 1)), b(maybe, 0, 5), b(yes, 5, 6))
	is(t, "wrong ones", busy.Merge(append(wrong(), b(yes, 5, 6))...), b(yes, 5, 6))
	all := api.Busy{Kind: maybe, From: at("00010101T000000Z"), To: at("99991231T235959Z")}
	is(t, "all time", busy.Merge(all), all)
}

// P24.2

func times(t *testing.T, from, to int, texts []string, want ...api.Busy) {
	t.Helper()
	l, e := busy.Times(hour(from), hour(to), texts...)
	if e != nil {
		t.Fatal(e)
	}
	is(t, "Times", l, want...)
}

func TestTimes(t *testing.T) {
	two := "DURATION:PT2H"
	for rows, kind := range map[string]int{
		two: yes, two + "\nSTATUS:TENTATIVE": maybe, two + "\nSTATUS:CONFIRMED": yes, two + "\nSTATUS:CANCELLED": no, two + "\nTRANSP:TRANSPARENT": no, two + "\nTRANSP:OPAQUE": yes, two + "\nX-BUSY:UNAVAILABLE": never,
		two + "\nX-BUSY:UNAVAILABLE\nSTATUS:TENTATIVE": never, two + "\nX-BUSY:UNAVAILABLE\nSTATUS:CANCELLED": no, two + "\nX-BUSY:UNAVAILABLE\nTRANSP:TRANSPARENT": no, two + "\nX-BUSY:unavailable": yes, two + "\nSTATUS:tentative": yes,
		// The first one of a name counts.
		two + "\nSTATUS:TENTATIVE\nSTATUS:CANCELLED": no, two + "\nSTATUS:TENTATIVE\nSTATUS:X": maybe,
	} {
		var want []api.Busy
		if kind != no {
			want = append(want, b(kind, 10, 12))
		}
		times(t, 0, 24, []string{entry(rows)}, want...)
	}
	times(t, 0, 24, []string{entry()})
	times(t, 0, 24, []string{strings.ReplaceAll(entry("DURATION:PT1H"), "VEVENT", "VTODO"), "x", "BEGIN:VCARD\nVERSION:4.0\nUID:u\nFN:A\nEND:VCARD", entry("STATUS:TENTATIVE", two)}, b(yes, 10, 11), b(maybe, 11, 12))
	times(t, 11, 24, []string{entry(two)}, b(yes, 11, 12))
	times(t, 0, 11, []string{entry(two)}, b(yes, 10, 11))
	times(t, 12, 24, []string{entry(two)})
	times(t, 0, 24, nil)
	over := entry("DURATION:PT1H", "RRULE:FREQ=HOURLY;INTERVAL=2;COUNT=3", "STATUS:TENTATIVE", "END:VEVENT", "BEGIN:VEVENT", "UID:u", "RECURRENCE-ID:20000101T120000Z", "DTSTART:20000101T200000Z", "DURATION:PT3H", "END:VEVENT", "BEGIN:VEVENT", "UID:u", "RECURRENCE-ID:20000101T140000Z", "DTSTART:20000101T140000Z", "DURATION:PT3H", "STATUS:CANCELLED")
	times(t, 0, 24, []string{over}, b(maybe, 10, 11), b(yes, 20, 23))
}

func TestTimesRefuses(t *testing.T) {
	refused := func(from, to api.Time, want api.Errno, texts ...string) {
		t.Helper()
		l, e := busy.Times(from, to, texts...)
		if !errors.Is(e, want) || l != nil {
			t.Fatalf("%v, %v; want %v", l, e, want)
		}
	}
	for _, x := range wrong() {
		if x.Kind == yes {
			refused(x.From, x.To, api.ErrArg)
		}
	}
	daily := entry("RRULE:FREQ=DAILY", "DURATION:PT1H")
	refused(hour(0), at("20500101T000000Z"), api.ErrInstance, "x", daily)
	refused(at("22000101T000000Z"), at("22000102T000000Z"), api.ErrMany, daily)
	var texts []string
	for n := range 3 {
		texts = append(texts, strings.Replace(entry("RRULE:FREQ=HOURLY;INTERVAL=2;COUNT=667", "DURATION:PT1M"), "T100000", "T10"+string(rune('0'+n))+"000", 1))
	}
	refused(hour(0), at("20010101T000000Z"), api.ErrMany, texts...)
	if l, e := busy.Times(hour(0), at("20010101T000000Z"), texts[0], texts[1], strings.Replace(texts[2], "667", "666", 1)); e != nil || len(l) != api.MaxBusy {
		t.Fatalf("%d, %v", len(l), e)
	}
}

// P24.3

func TestFreeAndFirst(t *testing.T) {
	l := append(wrong(), b(yes, 5, 7), b(maybe, 2, 3), b(never, 6, 8), b(yes, 3, 4))
	for _, c := range []struct {
		from, to, least int
		want            []api.Busy
	}{
		{0, 10, 1, []api.Busy{b(no, 0, 2), b(no, 4, 5), b(no, 8, 10)}}, {0, 10, 3601, []api.Busy{b(no, 0, 2), b(no, 8, 10)}}, {0, 10, 3600, []api.Busy{b(no, 0, 2), b(no, 4, 5), b(no, 8, 10)}}, {0, 10, 7201, nil}, {0, 10, -5, []api.Busy{b(no, 0, 2), b(no, 4, 5), b(no, 8, 10)}}, {0, 10, math.MaxInt, nil}, {0, 10, math.MinInt, []api.Busy{b(no, 0, 2), b(no, 4, 5), b(no, 8, 10)}},
		{2, 8, 1, []api.Busy{b(no, 4, 5)}}, {6, 7, 1, nil}, {9, 11, 1, []api.Busy{b(no, 9, 11)}}, {5, 5, 1, nil}, {9, 8, 1, nil},
	} {
		is(t, "Free", busy.Free(l, hour(c.from), hour(c.to), c.least), c.want...)
		first, ok := busy.First(l, hour(c.from), hour(c.to), c.least)
		if ok != (len(c.want) > 0) || ok && first != c.want[0].From || !ok && first != (api.Time{}) {
			t.Fatalf("First: %v, %v", first, ok)
		}
	}
	for _, x := range wrong() {
		if x.Kind == yes {
			is(t, "Free of no window", busy.Free(nil, x.From, x.To, 1))
		}
	}
	second := api.Busy{From: hour(1), To: when.At(when.Seconds(hour(1))+1, hour(1))}
	is(t, "Free of one second", busy.Free([]api.Busy{b(yes, 0, 1), {Kind: yes, From: second.To, To: hour(2)}}, hour(0), hour(2), 1), second)
	is(t, "Free of all", busy.Free(nil, hour(0), hour(1), 0), b(no, 0, 1))
}

// P24.4

const listText = "BEGIN:VCALENDAR\r\nVERSION:2.0\r\nBEGIN:VFREEBUSY\r\nUID:u;1\r\nDTSTART:20000101T000000Z\r\nDTEND:20000102T000000Z\r\nFREEBUSY;FBTYPE=BUSY-TENTATIVE:20000101T010000Z/20000101T020000Z\r\nFREEBUSY;FBTYPE=BUSY:20000101T020000Z/20000101T030000Z\r\nFREEBUSY;FBTYPE=BUSY-UNAVAILABLE:20000101T230000Z/20000102T000000Z\r\nEND:VFREEBUSY\r\nEND:VCALENDAR\r\n"

func TestPrint(t *testing.T) {
	l := []api.Busy{b(maybe, 1, 2), b(yes, 2, 3), b(never, 23, 24)}
	if s, e := busy.Print("u;1", hour(0), hour(24), l...); e != nil || s != listText {
		t.Fatalf("%q, %v", s, e)
	}
	refused := func(uid string, from, to int, want api.Errno, l ...api.Busy) {
		t.Helper()
		if s, e := busy.Print(uid, hour(from), hour(to), l...); !errors.Is(e, want) || s != "" {
			t.Fatalf("%q, %v; want %v", s, e, want)
		}
	}
	for _, uid := range []string{"", strings.Repeat("x", 101), "a\n", "\x7f"} {
		refused(uid, 0, 24, api.ErrArg)
	}
	refused("u", 5, 5, api.ErrArg)
	refused("u", 0, 2, api.ErrArg, l...)
	refused("u", 2, 24, api.ErrArg, l...)
	for _, x := range wrong() {
		refused("u", 0, 24, api.ErrArg, x)
	}
	refused("u", 0, 24, api.ErrArg, l[1], l[0])
	refused("u", 0, 24, api.ErrArg, b(yes, 1, 2), b(yes, 2, 3))
	refused("u", 0, 24, api.ErrArg, b(yes, 1, 3), b(maybe, 2, 4))
	var many []api.Busy
	for n := range api.MaxBusy + 1 {
		many = append(many, api.Busy{Kind: yes, From: minute(2 * n), To: minute(2*n + 1)})
	}
	refused("u", 0, 100, api.ErrMany, many...)
	refused("u", 0, 100, api.ErrMany, many[1:]...)
	rows := api.MaxRows - 8
	refused("u", 0, 100, api.ErrMany, many[:rows+1]...)
	if _, e := busy.Print("u", hour(0), hour(100), many[:rows]...); e != nil {
		t.Fatal(e)
	}
	refused("u", 0, 100, api.ErrArg, append(many, many[0])...)
}

func parses(t *testing.T, s, uid string, from, to int, want ...api.Busy) {
	t.Helper()
	u, a, z, l, e := busy.Parse(s)
	if e != nil || u != uid || a != hour(from) || z != hour(to) {
		t.Fatalf("%q, %v, %v, %v", u, a, z, e)
	}
	is(t, "Parse", l, want...)
}

// list is the text of a list with some rows.
func list(rows ...string) string {
	return strings.Join(slices.Concat([]string{"BEGIN:VCALENDAR", "VERSION:2.0", "BEGIN:VFREEBUSY"}, rows, []string{"END:VFREEBUSY", "END:VCALENDAR"}), "\n")
}

const uid, start, end = "UID:u", "DTSTART:20000101T000000Z", "DTEND:20000101T100000Z"

func TestParse(t *testing.T) {
	parses(t, listText, "u;1", 0, 24, b(maybe, 1, 2), b(yes, 2, 3), b(never, 23, 24))
	parses(t, list(uid, start, end), "u", 0, 10)
	parses(t, list("X-A:1", end, "freebusy:20000101T010000Z/PT1H,20000101T070000Z/20000101T130000Z", "FREEBUSY;FBTYPE=BUSY-TENTATIVE:19991231T230000Z/PT3H", "FREEBUSY:20000101T100000Z/PT1H", uid, start), "u", 0, 10, b(maybe, 0, 1), b(yes, 1, 2), b(yes, 7, 10))
}

func TestParseRefuses(t *testing.T) {
	refused := func(s string, want api.Errno) {
		t.Helper()
		u, a, z, l, e := busy.Parse(s)
		if !errors.Is(e, want) || api.Place(e) != 0 || u != "" || a != (api.Time{}) || z != (api.Time{}) || l != nil {
			t.Fatalf("Parse(%q): %v; want %v", s, e, want)
		}
	}
	if _, _, _, _, e := busy.Parse("x"); api.Place(e) != 1 || !errors.Is(e, api.ErrForm) {
		t.Fatal(e)
	}
	ok := list(uid, start, end)
	for _, s := range []string{"", ok + "\n" + ok, strings.ReplaceAll(ok, "VCALENDAR", "X"), strings.ReplaceAll(ok, "VFREEBUSY", "VEVENT"), list(uid, start, end, "BEGIN:X", "END:X"), list(uid, start, end, "END:VFREEBUSY", "BEGIN:VFREEBUSY"), "BEGIN:VCALENDAR\nVERSION:1\nEND:VCALENDAR"} {
		refused(s, api.ErrKind)
	}
	for _, version := range []string{"X:1", "VERSION:2.0\nVERSION:2.0", "VERSION:1.0", "G.VERSION:2.0", "VERSION;X=1:2.0"} {
		refused(strings.Replace(ok, "VERSION:2.0", version, 1), api.ErrForm)
	}
	for _, rows := range [][]string{
		{start, end}, {uid, end}, {uid, start}, {uid, uid, start, end}, {uid, start, start, end}, {uid, start, end, end}, {"G." + uid, start, end}, {"UID;X=1:u", start, end}, {uid, "G." + start, end}, {uid, "DTSTART;VALUE=DATE-TIME:20000101T000000Z", end}, {uid, start, "DTEND;X=1:20000101T100000Z"}, {uid, "DTSTART:x", end}, {uid, start, "DTEND:"},
		{uid, start, end, "G.FREEBUSY:20000101T010000Z/PT1H"}, {uid, start, end, "FREEBUSY;X=1:20000101T010000Z/PT1H"}, {uid, start, end, "FREEBUSY;FBTYPE=FREE:20000101T010000Z/PT1H"}, {uid, start, end, "FREEBUSY;FBTYPE=:20000101T010000Z/PT1H"}, {uid, start, end, "FREEBUSY;FBTYPE=busy:20000101T010000Z/PT1H"}, {uid, start, end, "FREEBUSY;FBTYPE=BUSY,BUSY:20000101T010000Z/PT1H"},
		{uid, start, end, "FREEBUSY:"}, {uid, start, end, "FREEBUSY:20000101T010000Z/PT1H,"}, {uid, start, end, "FREEBUSY:20000101T010000/PT1H"}, {uid, start, end, "FREEBUSY:20000101T010000Z"}, {uid, start, end, "FREEBUSY:20000101T010000Z/PT0S"},
		// What can't be read is told ahead of what is not right.
		{"UID:", start, end, "FREEBUSY:x"},
	} {
		refused(list(rows...), api.ErrForm)
	}
	for _, rows := range [][]string{{"UID:", start, end}, {"UID:" + strings.Repeat("x", 101), start, end}, {uid, start, "DTEND:20000101T000000Z"}, {uid, "DTSTART:20000101T100000Z", "DTEND:20000101T000000Z"}, {uid, "DTSTART:20000101", end}, {uid, start, "DTEND:20000101T100000"}} {
		refused(list(rows...), api.ErrArg)
	}
}

// P24.5 to P24.7

// dice are numbers that are the same in each run.
type dice uint64

func (d *dice) below(n int) int {
	*d = *d*6364136223846793005 + 1442695040888963407
	return int(uint64(*d)>>33) % n
}

func TestPlays(t *testing.T) {
	for seed := range 3000 {
		d := dice(seed)
		var l []api.Busy
		var kinds [24]int
		for range d.below(8) {
			x := b(d.below(5), d.below(24), d.below(24))
			l = append(l, x)
			if x.Kind == 0 || x.Kind == 4 {
				continue
			}
			for n := range kinds {
				if when.Seconds(x.From) <= when.Seconds(hour(n)) && when.Seconds(hour(n)) < when.Seconds(x.To) {
					kinds[n] = max(kinds[n], x.Kind)
				}
			}
		}
		var want, free []api.Busy
		for n := 0; n < 24; {
			end := n
			for end < 24 && kinds[end] == kinds[n] {
				end++
			}
			if kinds[n] > 0 {
				want = append(want, b(kinds[n], n, end))
			} else {
				free = append(free, b(no, n, end))
			}
			n = end
		}
		merged := busy.Merge(l...)
		is(t, "Merge", merged, want...)
		is(t, "Merge once more", busy.Merge(merged...), want...)
		is(t, "Free", busy.Free(l, hour(0), hour(24), 1), free...)
		slices.Reverse(l)
		is(t, "Merge the other way", busy.Merge(l...), want...)
		s, e := busy.Print("u", hour(0), hour(24), merged...)
		if e != nil {
			t.Fatal(e)
		}
		parses(t, s, "u", 0, 24, merged...)
	}
	if !reflect.DeepEqual(busy.Merge(wrong()...), []api.Busy(nil)) {
		t.Fatal("wrong ones are merged")
	}
}
