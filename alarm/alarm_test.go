package alarm_test

import (
	"errors"
	"fmt"
	"slices"
	"strings"
	"testing"

	"calends/alarm"
	"calends/api"
	"calends/event"
	"calends/when"
)

func at(s string) api.Time {
	t, e := when.Parse(s)
	if e != nil {
		panic(s)
	}
	return t
}

func field(name, value string) api.Field { return api.Field{Key: name, Value: value} }

// entry is the text of one.
func entry(rows ...string) string {
	return strings.Join(slices.Concat([]string{"BEGIN:VCALENDAR", "VERSION:2.0", "BEGIN:VEVENT", "UID:u"}, rows, []string{"END:VEVENT", "END:VCALENDAR"}), "\n")
}

// rings is the rows of an alarm.
func rings(trigger string) string {
	return "BEGIN:VALARM\nACTION:AUDIO\nTRIGGER:" + trigger + "\nEND:VALARM"
}

// told is a ring as a text.
func told(r api.Ring) string {
	s, _ := when.Print(r.At)
	w, _ := when.Print(r.Which)
	return fmt.Sprint(s, " ", r.Thing, " ", w, " ", r.Alarm, " ", r.Action)
}

func has(t *testing.T, from, to string, l []api.Field, want ...string) {
	t.Helper()
	all, e := alarm.Rings(at(from), at(to), l...)
	var got []string
	for _, r := range all {
		got = append(got, told(r))
	}
	if e != nil || !slices.Equal(got, want) {
		t.Fatalf("Rings: %q, %v; want %q", got, e, want)
	}
}

func refused(t *testing.T, from, to api.Time, want api.Errno, l ...api.Field) {
	t.Helper()
	if all, e := alarm.Rings(from, to, l...); !errors.Is(e, want) || api.Place(e) != 0 || all != nil {
		t.Fatalf("Rings: %v, %v; want %v", all, e, want)
	}
}

// wrongTimes are no beginning and no end of a window.
func wrongTimes() []api.Time {
	return []api.Time{{}, {UTC: true}, at("20000101"), at("20000101T000000")}
}

const ten = "DTSTART:20000101T100000Z"

// P26.1

func TestExample(t *testing.T) {
	has(t, "20000101T000000Z", "20000102T000000Z", []api.Field{field("x", entry(ten, rings("-PT5M")))}, "20000101T095500Z x 20000101T100000Z 0 AUDIO")
}

func TestRingsWindow(t *testing.T) {
	l := []api.Field{field("x", entry(ten, "DURATION:PT2H", rings("PT0S"), strings.Replace(rings("P1D"), "AUDIO", "EMAIL", 1)))}
	first, second := "20000101T100000Z x 20000101T100000Z 0 AUDIO", "20000102T100000Z x 20000101T100000Z 1 EMAIL"
	has(t, "20000101T100000Z", "20000103T000000Z", l, first, second)
	has(t, "20000101T100001Z", "20000103T000000Z", l, second)
	has(t, "20000101T100000Z", "20000102T100000Z", l, first)
	has(t, "20000101T100000Z", "20000101T100000Z", l)
	has(t, "20000101T000000Z", "20000101T100000Z", l)
	has(t, "20000101T103000Z", "20000101T113000Z", l)
}

func TestRingsOrder(t *testing.T) {
	a, b := entry(ten, rings("PT0S"), rings("-PT1H"), rings("PT0S")), entry("DTSTART:20000101T090000Z", "RDATE:20000101T100000Z", rings("PT0S"), rings("PT1H"))
	has(t, "20000101T000000Z", "20000102T000000Z", []api.Field{field("z", b), field("y", a), field("y", "x"), field("y", b)},
		"20000101T090000Z y 20000101T090000Z 0 AUDIO", "20000101T090000Z y 20000101T100000Z 1 AUDIO", "20000101T090000Z z 20000101T090000Z 0 AUDIO",
		"20000101T100000Z y 20000101T090000Z 1 AUDIO", "20000101T100000Z y 20000101T100000Z 0 AUDIO", "20000101T100000Z y 20000101T100000Z 0 AUDIO", "20000101T100000Z y 20000101T100000Z 2 AUDIO", "20000101T100000Z z 20000101T090000Z 1 AUDIO", "20000101T100000Z z 20000101T100000Z 0 AUDIO",
		"20000101T110000Z y 20000101T100000Z 1 AUDIO", "20000101T110000Z z 20000101T100000Z 1 AUDIO")
	// Of those that are alike in all these that of the field ahead comes first.
	email := strings.Replace(entry(ten, rings("PT0S")), "AUDIO", "EMAIL", 1)
	has(t, "20000101T000000Z", "20000102T000000Z", []api.Field{field("x", email), field("x", entry(ten, rings("PT0S")))}, "20000101T100000Z x 20000101T100000Z 0 EMAIL", "20000101T100000Z x 20000101T100000Z 0 AUDIO")
}

func TestRingsOfInstances(t *testing.T) {
	s := entry(ten, "RRULE:FREQ=DAILY;COUNT=3", rings("-PT1H"), "END:VEVENT", "BEGIN:VEVENT", "UID:u", "RECURRENCE-ID:20000102T100000Z", "DTSTART:20000105T100000Z", rings("PT1H"), rings("PT2H"), "END:VEVENT", "BEGIN:VEVENT", "UID:u", "RECURRENCE-ID:20000109T100000Z", "DTSTART:20000105T100000Z", rings("PT1H"))
	has(t, "20000101T000000Z", "20000201T000000Z", []api.Field{field("c", "BEGIN:VCARD\nVERSION:4.0\nUID:u\nFN:A\nEND:VCARD"), field("x", s)},
		"20000101T090000Z x 20000101T100000Z 0 AUDIO", "20000103T090000Z x 20000103T100000Z 0 AUDIO", "20000105T110000Z x 20000102T100000Z 0 AUDIO", "20000105T120000Z x 20000102T100000Z 1 AUDIO")
	// Rings far from the window in which the instance lies.
	has(t, "20100101T000000Z", "20100103T000000Z", []api.Field{field("x", entry("DTSTART;VALUE=DATE:20000101", rings("P3653D")))}, "20100101T000000Z x 20000101 0 AUDIO")
	// Times that there are not.
	has(t, "00010101T000000Z", "99991231T235959Z", []api.Field{field("x", entry("DTSTART:00010101T000000Z", rings("-PT1S"), rings("PT0S"))), field("y", entry("DTSTART:99991231T235958Z", rings("PT1S"), rings("PT0S"), rings("PT5S")))},
		"00010101T000000Z x 00010101T000000Z 1 AUDIO", "99991231T235958Z y 99991231T235958Z 1 AUDIO")
}

func TestRingsRefuses(t *testing.T) {
	ok := at("20000101T000000Z")
	for _, x := range wrongTimes() {
		refused(t, x, ok, api.ErrArg)
		refused(t, ok, x, api.ErrArg)
	}
	refused(t, at("20000101T000001Z"), ok, api.ErrArg)
	daily := entry(ten, "RRULE:FREQ=DAILY", rings("PT0S"))
	refused(t, ok, at("20500101T000000Z"), api.ErrInstance, field("x", daily))
	refused(t, at("22000101T000000Z"), at("22000102T000000Z"), api.ErrMany, field("x", "x"), field("x", daily))
	// Without alarms nothing is asked.
	has(t, "22000101T000000Z", "22000102T000000Z", []api.Field{field("x", entry(ten, "RRULE:FREQ=DAILY"))})
	// The error is that of the window of each alarm, also of items that have no instance.
	has(t, "21090601T000000Z", "21090602T000000Z", []api.Field{field("x", daily)}, "21090601T100000Z x 21090601T100000Z 0 AUDIO")
	refused(t, at("21090601T000000Z"), at("21090602T000000Z"), api.ErrMany, field("x", strings.Replace(daily, "PT0S", "-P200D", 1)))
	over := entry(ten, "RRULE:FREQ=DAILY", "END:VEVENT", "BEGIN:VEVENT", "UID:u", "RECURRENCE-ID:20000102T110000Z", ten, rings("PT0S"))
	refused(t, at("22000101T000000Z"), at("22000102T000000Z"), api.ErrMany, field("x", over))
	hourly := entry("DTSTART:20000101T000000Z", "RRULE:FREQ=HOURLY;COUNT=501", rings("PT0S"))
	if l, e := alarm.Rings(ok, at("20010101T000000Z"), field("x", hourly), field("y", strings.Replace(hourly, "501", "499", 1))); e != nil || len(l) != api.MaxRings {
		t.Fatalf("%d, %v", len(l), e)
	}
	refused(t, ok, at("20010101T000000Z"), api.ErrInstance, field("x", hourly), field("x", strings.Replace(hourly, "501", "500", 1)))
	refused(t, ok, at("20010101T000000Z"), api.ErrInstance, field("x", hourly), field("x", hourly))
	// An error of a later field is told ahead of that.
	refused(t, ok, at("22000101T000000Z"), api.ErrMany, field("x", hourly), field("x", hourly), field("y", daily))
}

// P26.2

func next(t *testing.T, from, want string, l ...api.Field) {
	t.Helper()
	r, ok, e := alarm.Next(at(from), l...)
	if e != nil || ok != (want != "") || ok && told(r) != want || !ok && r != (api.Ring{}) {
		t.Fatalf("Next from %s on: %v, %v, %v; want %s", from, r, ok, e, want)
	}
}

func TestNext(t *testing.T) {
	x := field("x", entry(ten, rings("-PT5M"), rings("PT5M")))
	first := "20000101T095500Z x 20000101T100000Z 0 AUDIO"
	next(t, "20000101T000000Z", first, x)
	next(t, "20000101T095500Z", first, x)
	next(t, "20000101T095501Z", "20000101T100500Z x 20000101T100000Z 1 AUDIO", x)
	next(t, "20000101T100501Z", "", x)
	next(t, "20000101T000000Z", "")
	next(t, "19981127T095501Z", first, x) // 400 days ahead, less a second
	next(t, "19981127T095500Z", "", x)
	next(t, "19981127T095500Z", "20000101T095459Z y 20000101T100000Z 0 AUDIO", x, field("y", entry(ten, rings("-PT301S"))))
	next(t, "99991231T235959Z", "", x)
	next(t, "99991231T000000Z", "99991231T100000Z x 99991231T100000Z 0 AUDIO", field("x", entry("DTSTART:99991231T100000Z", rings("PT0S"))))
	next(t, "99991231T000000Z", "", field("x", entry("DTSTART:99991231T235959Z", rings("PT0S"))))
}

func TestNextRefuses(t *testing.T) {
	refusedNext := func(from api.Time, want api.Errno, l ...api.Field) {
		t.Helper()
		if r, ok, e := alarm.Next(from, l...); !errors.Is(e, want) || ok || r != (api.Ring{}) {
			t.Fatalf("Next: %v, %v, %v; want %v", r, ok, e, want)
		}
	}
	for _, x := range wrongTimes() {
		refusedNext(x, api.ErrArg)
	}
	daily := entry(ten, "RRULE:FREQ=DAILY;BYMONTH=1", rings("PT0S"))
	refusedNext(at("21090601T000000Z"), api.ErrMany, field("x", daily))
	// What rings ahead of a window with an error is told.
	next(t, "21090601T000000Z", "21090615T100000Z y 21090615T100000Z 0 AUDIO", field("x", daily), field("y", strings.Replace(entry(ten, rings("PT0S")), "20000101", "21090615", 1)))
	refusedNext(at("21090601T000000Z"), api.ErrMany, field("x", daily), field("y", strings.Replace(entry(ten, rings("PT0S")), "20000101", "21090801", 1)))
}

// P26.3

func object(t *testing.T, s string) api.Object {
	t.Helper()
	o, e := event.Parse(s)
	if e != nil {
		t.Fatal(e)
	}
	return o
}

func due(t *testing.T, o api.Object, which string, want ...string) {
	t.Helper()
	l, e := alarm.Due(o, at(which))
	var got []string
	for _, x := range l {
		s, _ := when.Print(x)
		got = append(got, s)
	}
	if e != nil || !slices.Equal(got, want) {
		t.Fatalf("Due of %s: %q, %v; want %q", which, got, e, want)
	}
}

func notDue(t *testing.T, o api.Object, which api.Time, want api.Errno) {
	t.Helper()
	if l, e := alarm.Due(o, which); !errors.Is(e, want) || l != nil {
		t.Fatalf("Due: %v, %v; want %v", l, e, want)
	}
}

func TestDue(t *testing.T) {
	zone := "BEGIN:VTIMEZONE\nTZID:Z\nBEGIN:STANDARD\nDTSTART:19700101T000000\nTZOFFSETFROM:+0500\nTZOFFSETTO:+0500\nEND:STANDARD\nEND:VTIMEZONE\nBEGIN:VEVENT"
	s := entry("DTSTART;TZID=Z:20000101T100000", "RRULE:FREQ=DAILY;COUNT=9", rings("PT5M"), rings("-PT5M"), "END:VEVENT", "BEGIN:VEVENT", "UID:u", "RECURRENCE-ID;TZID=Z:20000103T100000", "DTSTART:20000104T100000Z", rings("PT0S"), "END:VEVENT", "BEGIN:VEVENT", "UID:u", "RECURRENCE-ID;TZID=Z:20000104T100000", "DTSTART:20000109T100000Z", rings("PT0S"))
	o := object(t, strings.Replace(s, "BEGIN:VEVENT", zone, 1))
	due(t, o, "20000102T100000", "20000102T050500Z", "20000102T045500Z")
	due(t, o, "20000103T100000", "20000104T100000Z")
	notDue(t, o, at("20000104T100000"), api.ErrNone) // its place is too far away
	notDue(t, o, at("20000102T100001"), api.ErrNone)
	notDue(t, o, at("20000102T100000Z"), api.ErrNone)
	notDue(t, o, at("20000102"), api.ErrNone)
	due(t, object(t, entry("DTSTART;VALUE=DATE:20000101")), "20000101")
	due(t, object(t, entry("DTSTART:00010101T000000Z", rings("-PT1S"), rings("PT1S"), rings("PT0S"))), "00010101T000000Z", "00010101T000001Z", "00010101T000000Z")
	due(t, object(t, entry("DTSTART:99991231T235958Z", rings("PT2S"), rings("PT1S"))), "99991231T235958Z", "99991231T235959Z")
	notDue(t, object(t, entry("DTSTART:99991231T235959Z", rings("PT0S"))), at("99991231T235959Z"), api.ErrNone)
	// Another one that stands in its place is found up to two days away.
	for to, found := range map[string]bool{"20000105T100000Z": true, "20000105T095959Z": false, "20000109T095959Z": true, "20000109T100000Z": false} {
		o := object(t, entry("DTSTART:20000107T100000Z", "END:VEVENT", "BEGIN:VEVENT", "UID:u", "RECURRENCE-ID:20000107T100000Z", "DTSTART:"+to, rings("PT0S")))
		if found {
			due(t, o, "20000107T100000Z", to)
		} else {
			notDue(t, o, at("20000107T100000Z"), api.ErrNone)
		}
	}
	notDue(t, api.Object{}, at("20000101"), api.ErrArg)
	notDue(t, api.Object{}, api.Time{}, api.ErrArg)
	notDue(t, o, api.Time{}, api.ErrNone)
	notDue(t, object(t, entry("DTSTART;VALUE=DATE:20000101", "RRULE:FREQ=DAILY")), at("22000101"), api.ErrMany)
}

// P26.4 to P26.6

// dice are numbers that are the same in each run.
type dice uint64

func (d *dice) below(n int) int {
	*d = *d*6364136223846793005 + 1442695040888963407
	return int(uint64(*d)>>33) % n
}

func (d *dice) things() []api.Field {
	var l []api.Field
	for n := range 1 + d.below(3) {
		var rows []string
		for range d.below(4) {
			rows = append(rows, rings([]string{"PT0S", "-PT1H", "P2D", "-P5D", "PT90S"}[d.below(5)]))
		}
		rows = append([]string{"DTSTART:2000010" + fmt.Sprint(1+d.below(9)) + "T100000Z", fmt.Sprintf("RRULE:FREQ=DAILY;INTERVAL=%d;COUNT=%d", 1+d.below(4), 1+d.below(9)), "DURATION:PT5H"}, rows...)
		l = append(l, field(fmt.Sprint("x", n/2), entry(rows...)))
	}
	return l
}

func TestLaws(t *testing.T) {
	utc := func(hours int) api.Time { return when.At(when.Seconds(at("19991220"))+3600*hours, api.Time{UTC: true}) }
	all := func(from, to api.Time, l []api.Field) []api.Ring {
		r, e := alarm.Rings(from, to, l...)
		if e != nil {
			t.Fatal(e)
		}
		return r
	}
	for seed := range 500 {
		d := dice(seed)
		l := d.things()
		from := d.below(500)
		mid := from + d.below(300)
		to := mid + d.below(900)
		whole := all(utc(from), utc(to), l)
		if parts := append(all(utc(from), utc(mid), l), all(utc(mid), utc(to), l)...); !slices.Equal(whole, parts) {
			t.Fatalf("play %d: %v; want %v", seed, parts, whole)
		}
		r, ok, e := alarm.Next(utc(from), l...)
		if e != nil || ok && !slices.Contains(all(utc(from), utc(9999), l), r) || len(whole) > 0 && (!ok || r != whole[0]) {
			t.Fatalf("play %d: Next %v, %v, %v; want that of %v", seed, r, ok, e, whole)
		}
		// What rings is due.
		for _, r := range whole {
			at := slices.IndexFunc(l, func(f api.Field) bool {
				times, e := alarm.Due(object(t, f.Value), r.Which)
				return f.Key == r.Thing && e == nil && len(times) > r.Alarm && times[r.Alarm] == r.At
			})
			if at < 0 {
				t.Fatalf("play %d: %v is not due", seed, r)
			}
		}
	}
	for _, span := range []string{"PT1H", "-P9D", "P100D"} {
		n, _ := when.Span(span)
		r := all(at("19990101T000000Z"), at("20010101T000000Z"), []api.Field{field("x", entry(ten, rings(span)))})
		if len(r) != 1 || when.Seconds(r[0].At) != when.Seconds(at("20000101T100000Z"))+n {
			t.Fatalf("%s: %v", span, r)
		}
	}
}
