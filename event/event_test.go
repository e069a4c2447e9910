package event_test

import (
	"errors"
	"reflect"
	"strings"
	"testing"

	"calends/api"
	"calends/comp"
	"calends/event"
	"calends/line"
	"calends/rule"
	"calends/when"
)

func text(rows ...string) string { return strings.Join(rows, "\r\n") + "\r\n" }

// at reads a moment, perhaps in a zone.
func at(s string, zone ...string) api.Moment {
	t, e := when.Parse(s)
	if e != nil {
		panic(s)
	}
	return api.Moment{Time: t, Zone: strings.Join(zone, "")}
}

func by(s string) api.Rule {
	r, e := rule.Parse(s)
	if e != nil {
		panic(s)
	}
	return r
}

func prop(row string) api.Prop {
	p, e := line.Parse(row)
	if e != nil {
		panic(row)
	}
	return p
}

func props(rows ...string) []api.Prop {
	var l []api.Prop
	for _, row := range rows {
		l = append(l, prop(row))
	}
	return l
}

// with is a text of a calendar with some rows in its entry.
func with(rows ...string) string {
	return calendar("BEGIN:VEVENT\r\n" + text(rows...) + "END:VEVENT")
}

// calendar is a text of a calendar with some rows.
func calendar(rows ...string) string {
	return "BEGIN:VCALENDAR\r\nVERSION:2.0\r\n" + text(rows...) + "END:VCALENDAR\r\n"
}

const zoneRows = "BEGIN:VTIMEZONE\r\nTZID:Z\r\nBEGIN:STANDARD\r\nDTSTART:19700101T000000\r\nTZOFFSETFROM:+0100\r\nTZOFFSETTO:+0100\r\nEND:STANDARD\r\nEND:VTIMEZONE"

func zoneOf(id string) api.Zone {
	return api.Zone{ID: id, Obs: []api.Obs{{Name: "STANDARD", Start: at("19700101T000000").Time, From: 3600, To: 3600}}}
}

// base is a small object that is right.
func base() api.Object {
	return api.Object{Kind: "VEVENT", UID: "a", Main: api.Item{Start: at("20000101"), Extra: props("SUMMARY:x")}}
}

// full is an object with all that there may be.
func full() api.Object {
	return api.Object{Kind: "VTODO", UID: "u;1", Zones: []api.Zone{zoneOf("Z"), zoneOf("A")}, Extra: props("PRODID:p", "X-A:1", "X-A:1"),
		Main: api.Item{Start: at("20000101T100000", "Z"), End: []api.Moment{at("20000101T110000", "Z")}, Rule: []api.Rule{by("FREQ=DAILY;COUNT=5")},
			RDates: []api.Moment{at("20000201T100000", "Z"), at("20000202T100000", "Z")}, EXDates: []api.Moment{at("20000103T100000", "Z")},
			Alarms: []api.Alarm{{Action: "DISPLAY", Behind: -300, Extra: props("DESCRIPTION:y", "UID:z")}, {Action: "AUDIO"}}, Extra: props("G.SUMMARY;X=1:x", "STATUS:y")},
		Over: []api.Item{{Recur: []api.Moment{at("20000102T100000", "Z")}, Start: at("20000102"), Span: []int{86400}},
			{Recur: []api.Moment{at("20000104T100000", "Z")}, Start: at("20000104T100000Z"), Span: []int{60}, Alarms: []api.Alarm{{Action: "EMAIL", Behind: 60}}, Extra: props("SUMMARY:z")}}}
}

func fullText() string {
	return calendar("PRODID:p", "X-A:1", "X-A:1", zoneRows, strings.ReplaceAll(zoneRows, "TZID:Z", "TZID:A"),
		"BEGIN:VTODO", "UID:u;1", "DTSTART;TZID=Z:20000101T100000", "DUE;TZID=Z:20000101T110000", "RRULE:FREQ=DAILY;COUNT=5", "RDATE;TZID=Z:20000201T100000", "RDATE;TZID=Z:20000202T100000", "EXDATE;TZID=Z:20000103T100000", "G.SUMMARY;X=1:x", "STATUS:y",
		"BEGIN:VALARM", "ACTION:DISPLAY", "TRIGGER:-PT5M", "DESCRIPTION:y", "UID:z", "END:VALARM", "BEGIN:VALARM", "ACTION:AUDIO", "TRIGGER:PT0S", "END:VALARM", "END:VTODO",
		"BEGIN:VTODO", "UID:u;1", "RECURRENCE-ID;TZID=Z:20000102T100000", "DTSTART;VALUE=DATE:20000102", "DURATION:P1D", "END:VTODO",
		"BEGIN:VTODO", "UID:u;1", "RECURRENCE-ID;TZID=Z:20000104T100000", "DTSTART:20000104T100000Z", "DURATION:PT1M", "SUMMARY:z", "BEGIN:VALARM", "ACTION:EMAIL", "TRIGGER:PT1M", "END:VALARM", "END:VTODO")
}

func parses(t *testing.T, s string, want api.Object) {
	t.Helper()
	o, e := event.Parse(s)
	if e != nil || !same(o, want) {
		t.Fatalf("Parse(%q): %+v, %v; want %+v", s, o, e, want)
	}
}

// same tells whether objects are told alike, and have the same lists.
func same(a, b api.Object) bool {
	s, e := event.Print(a)
	q, f := event.Print(b)
	return e == nil && f == nil && s == q && reflect.DeepEqual(a.Main.Alarms, b.Main.Alarms) && len(a.Over) == len(b.Over)
}

func unparsed(t *testing.T, s string, want api.Errno) {
	t.Helper()
	o, e := event.Parse(s)
	if !errors.Is(e, want) || api.Place(e) != 0 || !reflect.DeepEqual(o, api.Object{}) {
		t.Fatalf("Parse(%q): %+v, %v; want %v", s, o, e, want)
	}
}

// is tells whether an object, changed, is right.
func is(t *testing.T, right bool, o api.Object, change func(*api.Object)) {
	t.Helper()
	change(&o)
	s, e := event.Print(o)
	if event.Right(o) != right || right != (e == nil) || !right && (!errors.Is(e, api.ErrArg) || s != "") {
		t.Fatalf("%+v: %v, %v; want %v", o, event.Right(o), e, right)
	}
}

func TestExample(t *testing.T) {
	want := base()
	o, e := event.Parse(with("UID:a", "DTSTART;VALUE=DATE:20000101", "SUMMARY:x"))
	if e != nil || !reflect.DeepEqual(o, want) {
		t.Fatalf("%+v, %v", o, e)
	}
}

// P13.1

func TestPrint(t *testing.T) {
	s, e := event.Print(full())
	if e != nil || s != fullText() {
		t.Fatalf("%s, %v", s, e)
	}
	o, e := event.Parse(s)
	if e != nil || !reflect.DeepEqual(o, full()) {
		t.Fatalf("%+v, %v", o, e)
	}
}

func TestPrintOfMany(t *testing.T) {
	o := base()
	for n := range api.MaxOver {
		o.Over = append(o.Over, api.Item{Recur: []api.Moment{at("20000101")}, Start: at("20000101")})
		o.Over[n].Recur[0].Year += n
		for range 20 {
			o.Over[n].Extra = append(o.Over[n].Extra, prop("X:1"))
		}
	}
	s, e := event.Print(o)
	if !event.Right(o) || !errors.Is(e, api.ErrMany) || s != "" {
		t.Fatalf("%v", e)
	}
}

func TestRightOfObjects(t *testing.T) {
	is(t, true, base(), func(o *api.Object) {})
	is(t, true, base(), func(o *api.Object) { o.Kind = "VTODO" })
	for _, kind := range []string{"", "vevent", "VJOURNAL"} {
		is(t, false, base(), func(o *api.Object) { o.Kind = kind })
	}
	for uid, right := range map[string]bool{"": false, strings.Repeat("x", 100): true, strings.Repeat("x", 101): false, "a\tb": true, "a\n": false, "a\x7f": false} {
		is(t, right, base(), func(o *api.Object) { o.UID = uid })
	}
	five := []api.Zone{zoneOf("1"), zoneOf("2"), zoneOf("3"), zoneOf("4"), zoneOf("5")}
	is(t, true, base(), func(o *api.Object) { o.Zones = five })
	is(t, false, base(), func(o *api.Object) { o.Zones = append(five, zoneOf("6")) })
	is(t, false, base(), func(o *api.Object) { o.Zones = []api.Zone{zoneOf("1"), zoneOf("1")} })
	is(t, false, base(), func(o *api.Object) { o.Zones = []api.Zone{{ID: "1"}} })
	is(t, false, base(), func(o *api.Object) { o.Extra = props("VERSION:2.0") })
	is(t, false, base(), func(o *api.Object) { o.Main.Recur = []api.Moment{at("20000101")} })
	is(t, false, base(), func(o *api.Object) { o.Main.Start = api.Moment{} })
}

func TestRightOfExtra(t *testing.T) {
	many := func(n int) []api.Prop {
		var l []api.Prop
		for range n {
			l = append(l, prop("X:1"))
		}
		return l
	}
	long := "X:" + strings.Repeat("y", api.MaxRow-2)
	for _, put := range []func(*api.Object, []api.Prop){
		func(o *api.Object, l []api.Prop) { o.Extra = l }, func(o *api.Object, l []api.Prop) { o.Main.Extra = l },
		func(o *api.Object, l []api.Prop) { o.Main.Alarms = []api.Alarm{{Action: "AUDIO", Extra: l}} },
	} {
		try := func(right bool, l []api.Prop) {
			t.Helper()
			is(t, right, base(), func(o *api.Object) { put(o, l) })
		}
		try(true, many(api.MaxExtra))
		try(false, many(api.MaxExtra+1))
		try(true, props("A:2", "A:2", "A:3", "B.A:1"))
		try(false, props("A:3", "A:2"))
		try(false, props("B.A:1", "A:2"))
		try(false, []api.Prop{{Name: "x", Value: "1"}})
		try(false, []api.Prop{{Name: "BEGIN", Value: "1"}})
		try(false, []api.Prop{{Name: "END", Value: "1"}})
		try(true, props(long))
		try(false, []api.Prop{{Name: "X", Value: long}})
	}
	for _, name := range []string{"UID", "RECURRENCE-ID", "DTSTART", "DTEND", "DUE", "DURATION", "RRULE", "RDATE", "EXDATE"} {
		is(t, false, base(), func(o *api.Object) { o.Main.Extra = props(name + ":1") })
		is(t, true, base(), func(o *api.Object) { o.Extra = props(name + ":1") })
		is(t, true, base(), func(o *api.Object) { o.Main.Alarms = []api.Alarm{{Action: "AUDIO", Extra: props(name + ":1")}} })
	}
	for _, name := range []string{"ACTION", "TRIGGER"} {
		is(t, true, base(), func(o *api.Object) { o.Main.Extra = props(name + ":1") })
		is(t, false, base(), func(o *api.Object) { o.Main.Alarms = []api.Alarm{{Action: "AUDIO", Extra: props(name + ":1")}} })
	}
	is(t, true, base(), func(o *api.Object) { o.Main.Extra = props("VERSION:1") })
}

func TestRightOfMoments(t *testing.T) {
	start := func(right bool, m api.Moment) {
		t.Helper()
		is(t, right, base(), func(o *api.Object) { o.Zones, o.Main.Start = []api.Zone{zoneOf("Z")}, m })
	}
	start(true, at("20000101T100000"))
	start(true, at("20000101T100000Z"))
	start(true, at("20000101T100000", "Z"))
	start(false, at("20000101T100000Z", "Z"))
	start(false, at("20000101", "Z"))
	start(false, at("20000101T100000", "Y"))
	start(false, api.Moment{Time: api.Time{Bare: true}})
}

func TestRightOfItems(t *testing.T) {
	main := func(right bool, start api.Moment, change func(*api.Item)) {
		t.Helper()
		is(t, right, base(), func(o *api.Object) {
			o.Zones, o.Main.Start = []api.Zone{zoneOf("Z")}, start
			change(&o.Main)
		})
	}
	end := func(right bool, s string, zone ...string) {
		t.Helper()
		main(right, at("20000101T100000"), func(x *api.Item) { x.End = []api.Moment{at(s, zone...)} })
	}
	end(true, "20000101T100001")
	end(false, "20000101T100000")
	end(false, "19990101T100000")
	end(false, "20010101T100000Z")
	end(false, "20010101")
	end(false, "20010101T100000", "Z")
	main(true, at("20000101"), func(x *api.Item) { x.End = []api.Moment{at("20000102")} })
	main(false, at("20000101"), func(x *api.Item) { x.End = []api.Moment{at("20000102"), at("20000102")} })
	main(false, at("20000101"), func(x *api.Item) { x.End, x.Span = []api.Moment{at("20000102")}, []int{86400} })
	main(false, at("20000101"), func(x *api.Item) { x.End = []api.Moment{{}} })
	for n, right := range map[int]bool{0: false, 1: true, -1: false, 86400: true, api.MaxSpan: true, api.MaxSpan + 1: false} {
		main(right, at("20000101T100000"), func(x *api.Item) { x.Span = []int{n} })
		main(right && n == 86400, at("20000101"), func(x *api.Item) { x.Span = []int{n} })
	}
	main(false, at("20000101"), func(x *api.Item) { x.Span = []int{86400, 86400} })
	main(true, at("20000101"), func(x *api.Item) { x.Rule = []api.Rule{by("FREQ=DAILY")} })
	main(false, at("20000101"), func(x *api.Item) { x.Rule = []api.Rule{by("FREQ=HOURLY")} })
	main(false, at("20000101"), func(x *api.Item) { x.Rule = []api.Rule{by("FREQ=DAILY"), by("FREQ=DAILY")} })
	dates := func(right bool, l ...api.Moment) {
		t.Helper()
		main(right, at("20000101T100000", "Z"), func(x *api.Item) { x.RDates = l })
		main(right, at("20000101T100000", "Z"), func(x *api.Item) { x.EXDates = l })
	}
	dates(true, at("19990101T100000", "Z"), at("20000101T100000", "Z"))
	dates(false, at("20000101T100000", "Z"), at("20000101T100000", "Z"))
	dates(false, at("20000102T100000", "Z"), at("20000101T100000", "Z"))
	dates(false, at("20000101T100000"))
	dates(false, at("20000101T100000Z"))
	dates(false, at("20000101"))
	dates(false, api.Moment{Zone: "Z"})
	var many []api.Moment
	for n := range api.MaxDates + 1 {
		many = append(many, at("20000101T100000", "Z"))
		many[n].Year += n
	}
	dates(true, many[1:]...)
	dates(false, many...)
}

func TestRightOfAlarms(t *testing.T) {
	alarms := func(right bool, l ...api.Alarm) {
		t.Helper()
		is(t, right, base(), func(o *api.Object) { o.Main.Alarms = l })
	}
	for _, action := range []string{"AUDIO", "DISPLAY", "EMAIL"} {
		alarms(true, api.Alarm{Action: action})
	}
	for _, action := range []string{"", "audio", "PROCEDURE"} {
		alarms(false, api.Alarm{Action: action})
	}
	alarms(true, api.Alarm{Action: "AUDIO", Behind: -api.MaxSpan}, api.Alarm{Action: "AUDIO", Behind: api.MaxSpan})
	alarms(false, api.Alarm{Action: "AUDIO", Behind: -api.MaxSpan - 1})
	alarms(false, api.Alarm{Action: "AUDIO", Behind: api.MaxSpan + 1})
	alarms(true, make([]api.Alarm, 0)...)
	ten := strings.Repeat("x", api.MaxAlarms)
	var l []api.Alarm
	for range ten {
		l = append(l, api.Alarm{Action: "AUDIO"})
	}
	alarms(true, l...)
	alarms(false, append(l, l[0])...)
}

func TestRightOfOver(t *testing.T) {
	over := func(right bool, l ...api.Item) {
		t.Helper()
		is(t, right, base(), func(o *api.Object) { o.Zones, o.Over = []api.Zone{zoneOf("Z")}, l })
	}
	x := func(day string, change func(*api.Item)) api.Item {
		i := api.Item{Recur: []api.Moment{at(day)}, Start: at(day)}
		change(&i)
		return i
	}
	plain := func(day string) api.Item { return x(day, func(*api.Item) {}) }
	over(true, plain("20000101"), plain("20000102"))
	over(false, plain("20000102"), plain("20000101"))
	over(false, plain("20000101"), plain("20000101"))
	over(false, x("20000101", func(i *api.Item) { i.Recur = nil }))
	over(false, x("20000101", func(i *api.Item) { i.Recur = append(i.Recur, at("20000102")) }))
	over(false, x("20000101", func(i *api.Item) { i.Recur[0] = at("20000101T000000") }))
	over(false, x("20000101", func(i *api.Item) { i.Recur[0] = api.Moment{Time: api.Time{Bare: true}} }))
	over(true, x("20000101", func(i *api.Item) { i.Start = at("20050101T100000", "Z") }))
	over(false, x("20000101", func(i *api.Item) { i.Start = at("20050101T100000", "Y") }))
	over(false, x("20000101", func(i *api.Item) { i.Rule = []api.Rule{by("FREQ=DAILY")} }))
	over(false, x("20000101", func(i *api.Item) { i.RDates = []api.Moment{at("20000101")} }))
	over(false, x("20000101", func(i *api.Item) { i.EXDates = []api.Moment{at("20000101")} }))
	over(false, x("20000101", func(i *api.Item) { i.Extra = props("DTSTART:1") }))
	var many []api.Item
	for n := range api.MaxOver + 1 {
		many = append(many, x("20000101", func(i *api.Item) { i.Recur[0].Year += n }))
	}
	over(true, many[1:]...)
	over(false, many...)
}

func TestSorted(t *testing.T) {
	wrong1, wrong2 := api.Prop{Name: "z"}, api.Prop{Name: "a"}
	in := []api.Prop{prop("B:1"), wrong1, prop("A;X=1:1"), prop("A:2"), wrong2, prop("A:1"), prop("G.A:1"), prop("A:2")}
	want := []api.Prop{wrong1, wrong2, prop("A:1"), prop("A:2"), prop("A:2"), prop("A;X=1:1"), prop("B:1"), prop("G.A:1")}
	got := event.Sorted(in)
	if !reflect.DeepEqual(got, want) || in[0].Name != "B" {
		t.Fatalf("%v", got)
	}
	got[5].Params[0].Values[0] = "z"
	if in[2].Params[0].Values[0] != "1" || len(event.Sorted(nil)) != 0 {
		t.Fatal("what was handed in has changed")
	}
}

// P13.2

func TestParseRefusesWhatCompDoes(t *testing.T) {
	_, e := event.Parse("BEGIN:A\n\nX")
	var f *api.Fault
	if !errors.As(e, &f) || f.At != 3 || f.Err != api.ErrForm {
		t.Fatalf("%v", e)
	}
}

func TestParseRefusesOtherKinds(t *testing.T) {
	item := "BEGIN:VEVENT\r\nUID:a\r\nDTSTART;VALUE=DATE:20000101\r\nEND:VEVENT"
	todo := strings.ReplaceAll(item, "VEVENT", "VTODO")
	for _, s := range []string{
		"", calendar(), calendar(zoneRows), calendar(item) + calendar(item), text(item), calendar(item, todo), calendar(item, "BEGIN:VJOURNAL\r\nEND:VJOURNAL"), calendar("BEGIN:VCARD\r\nEND:VCARD"),
		strings.ReplaceAll(calendar(item), "VCALENDAR", "VCARD"), with("UID:a", "BEGIN:X", "END:X"), with("UID:a", "BEGIN:VALARM", "BEGIN:VALARM", "END:VALARM", "END:VALARM"), calendar(item) + "BEGIN:X\r\nEND:X\r\n",
		// It is the kind that is told ahead of what can't be read.
		"BEGIN:VCALENDAR\r\nVERSION:1\r\nEND:VCALENDAR\r\n",
	} {
		unparsed(t, s, api.ErrKind)
	}
	parses(t, calendar(todo), api.Object{Kind: "VTODO", UID: "a", Main: api.Item{Start: at("20000101")}})
	parses(t, calendar(item, zoneRows), api.Object{Kind: "VEVENT", UID: "a", Zones: []api.Zone{zoneOf("Z")}, Main: api.Item{Start: at("20000101")}})
}

const uid, start = "UID:a", "DTSTART;VALUE=DATE:20000101"

func TestParseRefusesOtherForms(t *testing.T) {
	ok := with(uid, start)
	for _, version := range []string{"", "VERSION:2.0\r\nVERSION:2.0\r\n", "VERSION:2.1\r\n", "G.VERSION:2.0\r\n", "VERSION;X=1:2.0\r\n"} {
		unparsed(t, strings.Replace(ok, "VERSION:2.0\r\n", version, 1), api.ErrForm)
	}
	item := "BEGIN:VEVENT\r\n" + text(uid, start) + "END:VEVENT"
	unparsed(t, calendar(strings.Replace(zoneRows, "TZID:Z\r\n", "", 1), item), api.ErrForm)
	unparsed(t, calendar(strings.Replace(zoneRows, "TZID:Z", "TZID:", 1), item), api.ErrForm)
	for _, rows := range [][]string{
		{uid}, {start}, {uid, uid, start}, {uid, start, start}, {"G.UID:a", start}, {"UID;X=1:a", start},
		{uid, start, "RECURRENCE-ID;VALUE=DATE:20000101"}, {uid, start, "DTEND;VALUE=DATE:20000102", "DTEND;VALUE=DATE:20000102"}, {uid, start, "DTEND;VALUE=DATE:20000102", "DUE;VALUE=DATE:20000102"}, {uid, start, "DUE;VALUE=DATE:20000102"},
		{uid, start, "DURATION:P1D", "DURATION:P1D"}, {uid, start, "RRULE:FREQ=DAILY", "RRULE:FREQ=DAILY"}, {uid, start, "DURATION;X=1:P1D"}, {uid, start, "G.DURATION:P1D"}, {uid, start, "DURATION:1D"}, {uid, start, "DURATION:P999999W"},
		{uid, start, "RRULE;VALUE=DATE:FREQ=DAILY"}, {uid, start, "RRULE:FREQ=X"}, {uid, start, "RRULE:FREQ=DAILY;COUNT=0"}, {uid, start, "G.RRULE:FREQ=DAILY"},
		{uid, "DTSTART:20000101"}, {uid, "DTSTART;VALUE=DATE-TIME:20000101"}, {uid, "DTSTART;VALUE=DATE:20000101T000000"}, {uid, "DTSTART;VALUE=date:20000101"}, {uid, "DTSTART;VALUE=DATE,DATE:20000101"}, {uid, "DTSTART;VALUE=PERIOD:20000101T000000"},
		{uid, "DTSTART;X=1:20000101T000000"}, {uid, "DTSTART;TZID=:20000101T000000"}, {uid, "DTSTART;TZID=Z,Z:20000101T000000"}, {uid, "G.DTSTART:20000101T000000"}, {uid, "DTSTART:20000132"}, {uid, "DTSTART:"}, {uid, "DTSTART;VALUE=DATE:20000101,20000102"},
		{uid, start, "RDATE;VALUE=DATE:"}, {uid, start, "RDATE;VALUE=DATE:20000101,"}, {uid, start, "RDATE;VALUE=DATE:20000101,20000101T000000"}, {uid, start, "EXDATE;VALUE=DATE:20000101 ,20000102"}, {uid, start, "G.EXDATE;VALUE=DATE:20000101"}, {uid, start, "EXDATE;X=1;VALUE=DATE:20000101"},
		{uid, start, "BEGIN:VALARM", "ACTION:AUDIO", "END:VALARM"}, {uid, start, "BEGIN:VALARM", "TRIGGER:PT0S", "END:VALARM"}, {uid, start, "BEGIN:VALARM", "ACTION:AUDIO", "ACTION:AUDIO", "TRIGGER:PT0S", "END:VALARM"}, {uid, start, "BEGIN:VALARM", "ACTION:AUDIO", "TRIGGER:PT0S", "TRIGGER:PT0S", "END:VALARM"},
		{uid, start, "BEGIN:VALARM", "ACTION;X=1:AUDIO", "TRIGGER:PT0S", "END:VALARM"}, {uid, start, "BEGIN:VALARM", "G.ACTION:AUDIO", "TRIGGER:PT0S", "END:VALARM"}, {uid, start, "BEGIN:VALARM", "ACTION:AUDIO", "TRIGGER;RELATED=END:PT0S", "END:VALARM"}, {uid, start, "BEGIN:VALARM", "ACTION:AUDIO", "TRIGGER:20000101T000000Z", "END:VALARM"}, {uid, start, "BEGIN:VALARM", "ACTION:AUDIO", "TRIGGER:P999999W", "END:VALARM"},
		{uid, start, "END:VEVENT", "BEGIN:VEVENT", "UID:b", start, "RECURRENCE-ID;VALUE=DATE:20000101"}, {uid, start, "END:VEVENT", "BEGIN:VEVENT", uid, start},
		// What can't be read is told ahead of what is not right.
		{"UID:", start, "DURATION:x"},
	} {
		unparsed(t, with(rows...), api.ErrForm)
	}
	unparsed(t, strings.ReplaceAll(with(uid, start, "DTEND;VALUE=DATE:20000102"), "VEVENT", "VTODO"), api.ErrForm)
}

func TestParseRefusesWrongObjects(t *testing.T) {
	for _, rows := range [][]string{
		{"UID:", start}, {"UID:" + strings.Repeat("x", 101), start}, {uid, start, "DTEND;VALUE=DATE:20000101"}, {uid, start, "DTEND:20000102T000000"}, {uid, start, "DTEND;VALUE=DATE:20000102", "DURATION:P1D"}, {uid, start, "DURATION:PT1H"}, {uid, start, "DURATION:-P1D"}, {uid, start, "DURATION:PT0S"},
		{uid, start, "RRULE:FREQ=HOURLY"}, {uid, "DTSTART;TZID=Z:20000101T000000"}, {uid, "DTSTART;VALUE=DATE;TZID=Z:20000101"}, {uid, "DTSTART;TZID=Z:20000101T000000Z"},
		{uid, start, "RDATE:20000101T000000"}, {uid, "DTSTART:20000101T000000", "RDATE:20000101T000000,20000101T000000Z"}, {uid, start, "BEGIN:VALARM", "ACTION:x", "TRIGGER:PT0S", "END:VALARM"},
		{uid, start, "END:VEVENT", "BEGIN:VEVENT", uid, start, "RECURRENCE-ID:20000101T000000"}, {uid, start, "END:VEVENT", "BEGIN:VEVENT", uid, start, "RECURRENCE-ID;VALUE=DATE:20000101", "RRULE:FREQ=DAILY"},
		{uid, start, "END:VEVENT", "BEGIN:VEVENT", uid, start, "RECURRENCE-ID;VALUE=DATE:20000101", "END:VEVENT", "BEGIN:VEVENT", uid, start, "RECURRENCE-ID;VALUE=DATE:20000101"},
		append([]string{uid, start}, strings.Split(strings.TrimSuffix(strings.Repeat("X:1,", api.MaxExtra+1), ","), ",")...),
	} {
		unparsed(t, with(rows...), api.ErrArg)
	}
	item := "BEGIN:VEVENT\r\n" + text(uid, start) + "END:VEVENT"
	unparsed(t, calendar(zoneRows, zoneRows, item), api.ErrArg)
}

func TestParseSorts(t *testing.T) {
	parses(t, with("x-b:2", "EXDATE;VALUE=DATE:20000107,20000106", "SUMMARY:x", start, "EXDATE;VALUE=DATE:20000106,20000105", "RDATE;VALUE=DATE:20000301,20000201,20000301", uid, "BEGIN:VALARM", "Z:1", "TRIGGER:+PT5M", "A:1", "ACTION:AUDIO", "END:VALARM"),
		api.Object{Kind: "VEVENT", UID: "a", Main: api.Item{Start: at("20000101"), RDates: []api.Moment{at("20000201"), at("20000301")}, EXDates: []api.Moment{at("20000105"), at("20000106"), at("20000107")},
			Alarms: []api.Alarm{{Action: "AUDIO", Behind: 300, Extra: props("A:1", "Z:1")}}, Extra: props("SUMMARY:x", "X-B:2")}})
	over := func(day string) string {
		return "BEGIN:VEVENT\r\nUID:a\r\nRECURRENCE-ID;VALUE=DATE:" + day + "\r\nDTSTART;VALUE=DATE-TIME:20000101T000000Z\r\nEND:VEVENT"
	}
	x := func(day string) api.Item {
		return api.Item{Recur: []api.Moment{at(day)}, Start: at("20000101T000000Z")}
	}
	parses(t, calendar("X-Z:1", over("20000105"), "BEGIN:VEVENT\r\n"+text(uid, start)+"END:VEVENT", over("20000103"), "X-A:1"), api.Object{Kind: "VEVENT", UID: "a", Extra: props("X-A:1", "X-Z:1"), Main: api.Item{Start: at("20000101")}, Over: []api.Item{x("20000103"), x("20000105")}})
}

// P13.3 to P13.5

// dice are numbers that are the same in each run.
type dice uint64

func (d *dice) below(n int) int {
	*d = *d*6364136223846793005 + 1442695040888963407
	return int(uint64(*d)>>33) % n
}

func TestBackAgainAndKept(t *testing.T) {
	known := []string{"DURATION:P1D", "RRULE:FREQ=DAILY", "RRULE:FREQ=WEEKLY;BYDAY=MO", "EXDATE;VALUE=DATE:20000105,20000102", "RDATE;VALUE=DATE:20000103", "RDATE;VALUE=DATE:20000103,20000102", "DTEND;VALUE=DATE:20000103", "BEGIN:VALARM\r\nTRIGGER:-P1D\r\nX:1\r\nACTION:EMAIL\r\nEND:VALARM"}
	other := []string{"SUMMARY:x", "summary:x", "X-A;P=1:2", "G.NOTE:^n", "X-A:\\n", "CATEGORIES:a,b"}
	read := 0
	for seed := range 3000 {
		d := dice(seed)
		rows := []string{uid, start}
		kept := map[string]int{}
		for range d.below(6) {
			if d.below(2) == 0 {
				rows = append(rows, known[d.below(len(known))])
				continue
			}
			row := other[d.below(len(other))]
			rows = append([]string{row}, rows...)
			told, _ := line.Print(prop(row))
			kept[told]++
		}
		o, e := event.Parse(with(rows...))
		if e != nil {
			continue
		}
		read++
		s, e := event.Print(o)
		again, e2 := event.Parse(s)
		if e != nil || e2 != nil || !reflect.DeepEqual(o, again) {
			t.Fatalf("%q: %v, %v", s, e, e2)
		}
		l, _ := comp.Parse(s)
		for row, n := range kept {
			for _, p := range l[0].Comps[0].Props {
				if told, _ := line.Print(p); told == row {
					n--
				}
			}
			if n != 0 {
				t.Fatalf("%q is not kept in %q", row, s)
			}
		}
	}
	if read < 1000 {
		t.Fatalf("only %d are read", read)
	}
}
