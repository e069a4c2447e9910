package zone_test

import (
	"errors"
	"reflect"
	"slices"
	"strings"
	"testing"
	"time"

	"calends/api"
	"calends/comp"
	"calends/rule"
	"calends/when"
	"calends/zone"
)

// at reads a time.
func at(s string) api.Time {
	t, e := when.Parse(s)
	if e != nil {
		panic(s)
	}
	return t
}

// by reads a rule, if there is one.
func by(s string) []api.Rule {
	if s == "" {
		return nil
	}
	r, e := rule.Parse(s)
	if e != nil {
		panic(s)
	}
	return []api.Rule{r}
}

func obs(name, start string, from, to int, r string) api.Obs {
	return api.Obs{Name: name, Start: at(start), From: from, To: to, Rule: by(r)}
}

// east is a zone whose clocks are 5 hours behind Greenwich in winter and 4 in summer.
func east() api.Zone {
	return api.Zone{ID: "East", Obs: []api.Obs{
		obs("DAYLIGHT", "20070311T020000", -18000, -14400, "FREQ=YEARLY;BYMONTH=3;BYDAY=2SU"),
		obs("STANDARD", "20071104T020000", -14400, -18000, "FREQ=YEARLY;BYMONTH=11;BYDAY=1SU"),
	}}
}

// fixed is a zone with one observance.
func fixed(n int) api.Zone {
	return api.Zone{ID: "F", Obs: []api.Obs{obs("STANDARD", "19700101T000000", n, n, "")}}
}

func refused(t *testing.T, e error, want api.Errno) {
	t.Helper()
	if !errors.Is(e, want) || api.Place(e) != 0 {
		t.Fatalf("%v; want %v", e, want)
	}
}

func offsets(t *testing.T, z api.Zone, s string, want int) {
	t.Helper()
	if n, e := zone.Offset(z, at(s)); e != nil || n != want {
		t.Fatalf("Offset at %s: %d, %v; want %d", s, n, e, want)
	}
}

func shows(t *testing.T, f func(api.Zone, api.Time) (api.Time, error), z api.Zone, s, want string) {
	t.Helper()
	x, e := f(z, at(s))
	if got, _ := when.Print(x); e != nil || got != want {
		t.Fatalf("%s: %s, %v; want %s", s, got, e, want)
	}
}

// P12.1

func TestRight(t *testing.T) {
	is := func(right bool, change func(*api.Zone)) {
		t.Helper()
		z := east()
		change(&z)
		if zone.Right(z) != right {
			t.Fatalf("%+v: %v", z, !right)
		}
		c, e := zone.Tell(z)
		if right != (e == nil) {
			t.Fatal(e)
		}
		if !right {
			refused(t, e, api.ErrArg)
			if !reflect.DeepEqual(c, api.Comp{}) {
				t.Fatal("a component beside an error")
			}
			_, e = zone.Offset(z, at("20000101"))
			refused(t, e, api.ErrArg)
			_, e = zone.Universal(z, at("20000101T000000Z"))
			refused(t, e, api.ErrArg)
			_, e = zone.Local(z, at("20000101T000000Z"))
			refused(t, e, api.ErrArg)
		}
	}
	is(true, func(z *api.Zone) {})
	is(false, func(z *api.Zone) { z.ID = "" })
	is(true, func(z *api.Zone) { z.ID = strings.Repeat("é", 30) })
	is(false, func(z *api.Zone) { z.ID = strings.Repeat("x", 61) })
	is(false, func(z *api.Zone) { z.ID = "a\n" })
	is(false, func(z *api.Zone) { z.Obs = nil })
	is(true, func(z *api.Zone) { z.Obs = slices.Repeat(z.Obs, 10) })
	is(false, func(z *api.Zone) { z.Obs = slices.Repeat(z.Obs[:1], 21) })
	is(false, func(z *api.Zone) { z.Obs[1].Name = "" })
	is(false, func(z *api.Zone) { z.Obs[1].Name = "standard" })
	is(false, func(z *api.Zone) { z.Obs[0].Start = at("20070311") })
	is(false, func(z *api.Zone) { z.Obs[0].Start.UTC = true })
	is(false, func(z *api.Zone) { z.Obs[0].Start.Hour = 24 })
	is(true, func(z *api.Zone) { z.Obs[0].From, z.Obs[0].To = 86399, -86399 })
	is(false, func(z *api.Zone) { z.Obs[0].From = 86400 })
	is(false, func(z *api.Zone) { z.Obs[0].To = -86400 })
	is(true, func(z *api.Zone) { z.Obs[0].Rule = nil })
	is(false, func(z *api.Zone) { z.Obs[0].Rule = slices.Repeat(z.Obs[0].Rule, 2) })
	is(false, func(z *api.Zone) { z.Obs[0].Rule[0].Interval = 0 })
	is(false, func(z *api.Zone) { z.Obs[0].Rule[0].Until = []api.Time{at("20200101T000000Z")} })
	if zone.Right(api.Zone{}) {
		t.Fatal("the zero zone is right")
	}
}

// P12.2

func text(rows ...string) string { return strings.Join(rows, "\r\n") + "\r\n" }

func parsed(t *testing.T, s string) api.Comp {
	t.Helper()
	l, e := comp.Parse(s)
	if e != nil || len(l) != 1 {
		t.Fatal(e)
	}
	return l[0]
}

func TestTellAndRead(t *testing.T) {
	c, e := zone.Tell(east())
	if e != nil {
		t.Fatal(e)
	}
	want := text("BEGIN:VTIMEZONE", "TZID:East",
		"BEGIN:DAYLIGHT", "DTSTART:20070311T020000", "TZOFFSETFROM:-0500", "TZOFFSETTO:-0400", "RRULE:FREQ=YEARLY;BYMONTH=3;BYDAY=2SU", "END:DAYLIGHT",
		"BEGIN:STANDARD", "DTSTART:20071104T020000", "TZOFFSETFROM:-0400", "TZOFFSETTO:-0500", "RRULE:FREQ=YEARLY;BYMONTH=11;BYDAY=1SU", "END:STANDARD", "END:VTIMEZONE")
	if s, e := comp.Print(c); e != nil || s != want {
		t.Fatalf("%q, %v", s, e)
	}
	if z, e := zone.Read(c); e != nil || !reflect.DeepEqual(z, east()) {
		t.Fatalf("%+v, %v", z, e)
	}
	z := fixed(-3661)
	z.ID = "a\\,b;\t"
	if c, e = zone.Tell(z); e != nil {
		t.Fatal(e)
	}
	if got, e := zone.Read(c); e != nil || !reflect.DeepEqual(got, z) {
		t.Fatalf("%+v, %v", got, e)
	}
}

// rows are those of a zone with one observance; some of them are changed by the tests.
func rows() []string {
	return []string{"BEGIN:VTIMEZONE", "TZID:F", "BEGIN:STANDARD", "DTSTART:19700101T000000", "TZOFFSETFROM:+0100", "TZOFFSETTO:+0100", "RRULE:FREQ=YEARLY", "END:STANDARD", "END:VTIMEZONE"}
}

func TestReadPassesOver(t *testing.T) {
	l := rows()
	l[1] = "G.TZID;X=1:F\r\nX-OTHER:1\r\nDTSTART:x"
	l[3] = "DTSTART;VALUE=DATE-TIME:19700101T000000\r\nTZNAME:x\r\nTZID:y\r\nBEGIN:DAYLIGHT\r\nEND:DAYLIGHT"
	l[2] = "BEGIN:OTHER\r\nDTSTART:x\r\nEND:OTHER\r\n" + l[2]
	l[7] += "\r\nBEGIN:OTHER\r\nDTSTART:x\r\nEND:OTHER"
	want := fixed(3600)
	want.Obs[0].Rule = by("FREQ=YEARLY")
	if z, e := zone.Read(parsed(t, text(l...))); e != nil || !reflect.DeepEqual(z, want) {
		t.Fatalf("%+v, %v", z, e)
	}
}

func TestReadRefuses(t *testing.T) {
	for _, c := range []struct {
		at   int
		row  string
		want api.Errno
	}{
		{1, "", api.ErrForm}, {1, "TZID:F\r\nTZID:F", api.ErrForm}, {1, "TZID:", api.ErrArg}, {1, "TZID:" + strings.Repeat("x", 61), api.ErrArg},
		{3, "", api.ErrForm}, {3, "DTSTART:19700101T000000\r\nDTSTART:19700101T000000", api.ErrForm}, {3, "DTSTART:x", api.ErrForm}, {3, "DTSTART:19700101", api.ErrArg}, {3, "DTSTART:19700101T000000Z", api.ErrArg},
		{4, "", api.ErrForm}, {4, "TZOFFSETFROM:+0100\r\nTZOFFSETFROM:+0100", api.ErrForm}, {4, "TZOFFSETFROM:1", api.ErrForm}, {4, "TZOFFSETFROM:-0000", api.ErrForm},
		{5, "", api.ErrForm}, {5, "TZOFFSETTO:+0100\r\nTZOFFSETTO:+0100", api.ErrForm}, {5, "TZOFFSETTO:+2400", api.ErrForm},
		{6, "RRULE:FREQ=YEARLY\r\nRRULE:FREQ=YEARLY", api.ErrForm}, {6, "RRULE:x", api.ErrForm}, {6, "RRULE:FREQ=YEARLY;COUNT=0", api.ErrForm}, {6, "RRULE:FREQ=YEARLY;UNTIL=20000101", api.ErrArg},
		{1, "TZID:\r\nTZID:", api.ErrForm},
	} {
		l := rows()
		l[c.at] = c.row
		z, e := zone.Read(parsed(t, text(l...)))
		if !errors.Is(e, c.want) || api.Place(e) != 0 || !reflect.DeepEqual(z, api.Zone{}) {
			t.Errorf("%q: %+v, %v; want %v", c.row, z, e, c.want)
		}
	}
	_, e := zone.Read(api.Comp{})
	refused(t, e, api.ErrForm)
	_, e = zone.Read(parsed(t, text("BEGIN:VTIMEZONE", "TZID:F", "END:VTIMEZONE")))
	refused(t, e, api.ErrArg)
	_, e = zone.Read(parsed(t, text("BEGIN:STANDARD", "TZID:F", "END:STANDARD")))
	refused(t, e, api.ErrForm)
	// A component that can't be read is told ahead of what else is not right.
	l := rows()
	l[1], l[5] = "TZID:", "TZOFFSETTO:x"
	_, e = zone.Read(parsed(t, text(l...)))
	refused(t, e, api.ErrForm)
}

// P12.3

func TestOffset(t *testing.T) {
	z := east()
	offsets(t, z, "20070311T015959", -18000)
	offsets(t, z, "20070311T020000", -14400)
	offsets(t, z, "20070701T120000", -14400)
	offsets(t, z, "20071104T015959", -14400)
	offsets(t, z, "20071104T020000", -18000)
	offsets(t, z, "20200305", -18000)
	offsets(t, z, "20200401", -14400)
	// Ahead of all onsets it is the From of the first one.
	offsets(t, z, "00010101", -18000)
	slices.Reverse(z.Obs)
	offsets(t, z, "00010101", -18000)
	z.Obs = []api.Obs{obs("STANDARD", "20000101T000000", 1, 2, ""), obs("DAYLIGHT", "20000101T000000", 3, 4, ""), obs("DAYLIGHT", "20010101T000000", 5, 6, "")}
	offsets(t, z, "19991231T235959", 1)
	offsets(t, z, "20000101T000000", 4)
	offsets(t, z, "20010101", 6)
	slices.Reverse(z.Obs)
	offsets(t, z, "20000101", 2)
}

func TestOffsetRefuses(t *testing.T) {
	for _, x := range []api.Time{{}, at("20000101T000000Z"), {Day: api.Day{Year: 2001, Month: 2, Date: 29}}} {
		n, e := zone.Offset(east(), x)
		refused(t, e, api.ErrArg)
		if n != 0 {
			t.Fatal("an offset beside an error")
		}
	}
	z := east()
	z.Obs = append(z.Obs, obs("STANDARD", "20100101T000000", 0, 0, "FREQ=SECONDLY"))
	offsets(t, z, "20090401T000000", -14400)
	offsets(t, z, "20100101T110639", 0)
	_, e := zone.Offset(z, at("20100101T110640"))
	refused(t, e, api.ErrMany)
	_, e = zone.Universal(z, at("20100101T110640"))
	refused(t, e, api.ErrMany)
	shows(t, zone.Universal, z, "20200101T000000Z", "20200101T000000Z")
	_, e = zone.Local(z, at("20100101T110640Z"))
	refused(t, e, api.ErrMany)
	shows(t, zone.Local, z, "20100101T110639Z", "20100101T110639")
}

// P12.4

func TestUniversal(t *testing.T) {
	z := east()
	shows(t, zone.Universal, z, "20070701T120000", "20070701T160000Z")
	shows(t, zone.Universal, z, "20071201T120000", "20071201T170000Z")
	shows(t, zone.Universal, z, "20071201", "20071201T050000Z")
	shows(t, zone.Universal, z, "20071201T120000Z", "20071201T120000Z")
	shows(t, zone.Universal, z, "99991231T185959", "99991231T235959Z")
	shows(t, zone.Universal, fixed(3600), "00010101T010000", "00010101T000000Z")
	_, e := zone.Universal(z, at("99991231T190000"))
	refused(t, e, api.ErrRange)
	_, e = zone.Universal(fixed(3600), at("00010101T005959"))
	refused(t, e, api.ErrRange)
	_, e = zone.Universal(z, api.Time{UTC: true})
	refused(t, e, api.ErrArg)
}

func TestLocal(t *testing.T) {
	z := east()
	shows(t, zone.Local, z, "20070311T065959Z", "20070311T015959")
	shows(t, zone.Local, z, "20070311T070000Z", "20070311T030000")
	shows(t, zone.Local, z, "20071104T055959Z", "20071104T015959")
	shows(t, zone.Local, z, "20071104T060000Z", "20071104T010000")
	shows(t, zone.Local, z, "19000101T060000Z", "19000101T010000")
	shows(t, zone.Local, fixed(3600), "99991231T225959Z", "99991231T235959")
	_, e := zone.Local(fixed(3600), at("99991231T230000Z"))
	refused(t, e, api.ErrRange)
	_, e = zone.Local(z, at("00010101T045959Z"))
	refused(t, e, api.ErrRange)
	shows(t, zone.Local, z, "00010101T050000Z", "00010101T000000")
	for _, x := range []api.Time{{}, {UTC: true}, at("20000101"), at("20000101T000000")} {
		got, e := zone.Local(z, x)
		refused(t, e, api.ErrArg)
		if got != (api.Time{}) {
			t.Fatal("a time beside an error")
		}
	}
	// Onsets at one moment: the observance that stands last counts, whatever clocks show.
	z.Obs = []api.Obs{obs("STANDARD", "20000101T010000", 3600, 7200, ""), obs("STANDARD", "20000101T000000", 0, 60, ""), obs("STANDARD", "20000101T000001", 3600, 9, "")}
	shows(t, zone.Local, z, "20000101T000000Z", "20000101T000100")
}

// P12.5 to P12.7

// TestAgainstAPlainWay holds a zone of fixed turns against a plain way to tell its offset.
func TestAgainstAPlainWay(t *testing.T) {
	z := east()
	plain := func(x time.Time) int {
		sunday := func(m time.Month, n int) time.Time {
			d := time.Date(x.Year(), m, 1, 0, 0, 0, 0, time.UTC)
			return d.AddDate(0, 0, (7-int(d.Weekday()))%7+7*(n-1))
		}
		if !x.Before(sunday(3, 2).Add(7*time.Hour)) && x.Before(sunday(11, 1).Add(6*time.Hour)) {
			return -14400
		}
		return -18000
	}
	for x := time.Date(2008, 1, 1, 0, 0, 0, 0, time.UTC); x.Year() < 2012; x = x.Add(1801 * time.Second) {
		moment := at(x.Format("20060102T150405Z"))
		local, e := zone.Local(z, moment)
		if e != nil || when.Seconds(local)-when.Seconds(moment) != plain(x) {
			t.Fatalf("Local of %v: %v, %v", moment, local, e)
		}
		back, e := zone.Universal(z, local)
		if n := when.Seconds(back) - when.Seconds(moment); e != nil || n != 0 && n != 3600 && n != -3600 {
			t.Fatalf("Universal of %v: %v, %v", local, back, e)
		}
	}
}

func TestOneObservanceTurnsBack(t *testing.T) {
	for _, n := range []int{0, 1, -1, 86399, -86399, 19800} {
		z := fixed(n)
		z.Obs[0].Rule = by("FREQ=YEARLY;COUNT=3")
		for second := 86400; second < 3652058*86400; second += 1234567890 {
			x := when.At(second, api.Time{UTC: true})
			local, e1 := zone.Local(z, x)
			back, e2 := zone.Universal(z, local)
			if e1 != nil || e2 != nil || back != x {
				t.Fatalf("%v: %v, %v, %v, %v", x, local, e1, back, e2)
			}
		}
	}
}
