package recur_test

import (
	"errors"
	"slices"
	"testing"

	"calends/api"
	"calends/recur"
	"calends/rule"
	"calends/when"
)

// at reads a time.
func at(s string) api.Time {
	t, e := when.Parse(s)
	if e != nil {
		panic(s)
	}
	return t
}

// by reads a rule.
func by(s string) api.Rule {
	r, e := rule.Parse(s)
	if e != nil {
		panic(s)
	}
	return r
}

func refused(t *testing.T, e error, want api.Errno) {
	t.Helper()
	if !errors.Is(e, want) || api.Place(e) != 0 {
		t.Fatalf("%v; want %v", e, want)
	}
}

func expands(t *testing.T, start, r, from, to string, want ...string) {
	t.Helper()
	l, e := recur.Expand(at(start), by(r), at(from), at(to))
	if e != nil {
		t.Fatalf("%s from %s on: %v", r, start, e)
	}
	var got []string
	for _, x := range l {
		s, _ := when.Print(x)
		got = append(got, s)
	}
	if !slices.Equal(got, want) {
		t.Fatalf("%s from %s on: %v; want %v", r, start, got, want)
	}
}

func unexpanded(t *testing.T, start, r, from, to string, want api.Errno) {
	t.Helper()
	l, e := recur.Expand(at(start), by(r), at(from), at(to))
	refused(t, e, want)
	if len(l) != 0 {
		t.Fatal("instances beside an error")
	}
}

// P11.1

func TestFits(t *testing.T) {
	for _, c := range []struct {
		start, r string
		fits     bool
	}{
		{"20000101", "FREQ=YEARLY", true}, {"20000101", "FREQ=DAILY", true}, {"20000101", "FREQ=HOURLY", false}, {"20000101", "FREQ=SECONDLY", false},
		{"20000101", "FREQ=DAILY;BYHOUR=0", false}, {"20000101", "FREQ=DAILY;BYMINUTE=0", false}, {"20000101", "FREQ=DAILY;BYSECOND=0", false},
		{"20000101T000000", "FREQ=SECONDLY;BYHOUR=0;BYMINUTE=0;BYSECOND=0", true},
		{"20000101", "FREQ=DAILY;UNTIL=20000102", true}, {"20000101", "FREQ=DAILY;UNTIL=20000102T000000", false}, {"20000101", "FREQ=DAILY;UNTIL=20000102T000000Z", false},
		{"20000101T000000", "FREQ=DAILY;UNTIL=20000102", false}, {"20000101T000000", "FREQ=DAILY;UNTIL=19990102T000000", true}, {"20000101T000000", "FREQ=DAILY;UNTIL=20000102T000000Z", false},
		{"20000101T000000Z", "FREQ=DAILY;UNTIL=20000102T000000Z", true}, {"20000101T000000Z", "FREQ=DAILY;UNTIL=20000102T000000", false},
	} {
		if recur.Fits(at(c.start), by(c.r)) != c.fits {
			t.Errorf("%s from %s on: %v", c.r, c.start, !c.fits)
		}
	}
	if recur.Fits(api.Time{}, by("FREQ=DAILY")) || recur.Fits(at("20000101"), api.Rule{}) {
		t.Error("what is not right fits")
	}
}

func TestMatches(t *testing.T) {
	for _, c := range []struct {
		start, r, t string
		want        bool
	}{
		{"20000101T100000", "FREQ=DAILY", "20000105T100000", true}, {"20000101T100000", "FREQ=DAILY", "20000105T100001", false},
		{"20000101T100000", "FREQ=DAILY", "20000105T100000Z", false}, {"20000101T100000", "FREQ=DAILY", "19991231T100000", false},
		{"20000101T100000", "FREQ=DAILY;INTERVAL=2", "20000102T100000", false}, {"20000101T100000", "FREQ=DAILY;INTERVAL=2", "20000103T100000", true},
		// Ahead of the start, but in its period; SetPos, Count and Until aside.
		{"20000115", "FREQ=MONTHLY;BYMONTHDAY=1;COUNT=1", "20000101", true}, {"20000115", "FREQ=MONTHLY;BYMONTHDAY=1;UNTIL=20000116", "20050101", true},
		{"20000115", "FREQ=MONTHLY;BYDAY=MO;BYSETPOS=1", "20000117", true}, {"20000115", "FREQ=MONTHLY;BYMONTHDAY=1", "20000115", false}, {"20000115", "FREQ=MONTHLY;BYMONTHDAY=1", "19991201", false},
		{"20000101T100000", "FREQ=HOURLY", "20000101T150000", true}, {"20000101T100000", "FREQ=HOURLY", "20000101T150100", false}, {"20000101T100005", "FREQ=MINUTELY", "20000101T150105", true},
		{"20000101T100000", "FREQ=SECONDLY;INTERVAL=7", "20000101T100007", true}, {"20000101T100000", "FREQ=SECONDLY;INTERVAL=7", "20000101T100008", false},
		{"20000101", "FREQ=DAILY", "20000105T000000", false},
		{"20000101T100000", "FREQ=DAILY", "20000105T110000", false}, {"20000101T100000", "FREQ=HOURLY", "20000105T110100", false}, {"20000101T100000", "FREQ=MINUTELY", "20000105T110101", false}, {"20000101T100000", "FREQ=SECONDLY", "20000105T110101", true},
		// Weeks of the years ahead of all and behind all, which have one week, as far as counting from their ends goes.
		{"00010101", "FREQ=YEARLY;BYWEEKNO=52;WKST=TU", "00010101", true}, {"00010101", "FREQ=YEARLY;BYWEEKNO=50;WKST=TU", "00010101", true}, {"00010101", "FREQ=YEARLY;BYWEEKNO=-1;WKST=TU", "00010101", false}, {"00010101", "FREQ=YEARLY;BYWEEKNO=1", "00010101", true},
		{"99991231", "FREQ=YEARLY;BYWEEKNO=1;WKST=FR", "99991231", true}, {"99991231", "FREQ=YEARLY;BYWEEKNO=-1;WKST=FR", "99991231", true}, {"99991231", "FREQ=YEARLY;BYWEEKNO=-2;WKST=FR", "99991231", false},
	} {
		if recur.Matches(at(c.start), by(c.r), at(c.t)) != c.want {
			t.Errorf("%s from %s on, %s: %v", c.r, c.start, c.t, !c.want)
		}
	}
	if recur.Matches(at("20000101"), by("FREQ=DAILY"), api.Time{}) || recur.Matches(at("20000101"), by("FREQ=HOURLY"), at("20000101")) || recur.Matches(api.Time{}, by("FREQ=DAILY"), at("20000101")) {
		t.Error("what is not right matches")
	}
}

// P11.2

func TestExamples(t *testing.T) {
	expands(t, "19970131", "FREQ=MONTHLY;BYDAY=-1FR", "19970101", "19970401", "19970131", "19970228", "19970328")
	expands(t, "19970805", "FREQ=WEEKLY;INTERVAL=2;BYDAY=TU,SU", "19970801", "19970901", "19970805", "19970810", "19970819", "19970824")
	expands(t, "19970805", "FREQ=WEEKLY;INTERVAL=2;BYDAY=TU,SU;WKST=SU", "19970801", "19970901", "19970805", "19970817", "19970819", "19970831")
}

func TestExpandByFrequencies(t *testing.T) {
	expands(t, "20000229", "FREQ=YEARLY", "20000101", "20100101", "20000229", "20040229", "20080229")
	expands(t, "20000131", "FREQ=MONTHLY", "20000101", "20000801", "20000131", "20000331", "20000531", "20000731")
	expands(t, "20000105T120000Z", "FREQ=WEEKLY", "20000101", "20000120", "20000105T120000Z", "20000112T120000Z", "20000119T120000Z")
	expands(t, "20000101T235959", "FREQ=SECONDLY;COUNT=3", "20000101", "20010101", "20000101T235959", "20000102T000000", "20000102T000001")
	expands(t, "20000101T100000", "FREQ=HOURLY;INTERVAL=13;BYMINUTE=0,30;COUNT=4", "20000101", "20010101", "20000101T100000", "20000101T103000", "20000101T230000", "20000101T233000")
	expands(t, "20000101T100000", "FREQ=MINUTELY;BYHOUR=11;BYSECOND=5;COUNT=3", "20000101", "20010101", "20000101T100000", "20000101T110005", "20000101T110105")
	expands(t, "20000101T100000", "FREQ=DAILY;BYHOUR=9,11;BYMINUTE=1,2;BYSETPOS=2,-1", "20000101", "20000103", "20000101T100000", "20000101T110200", "20000102T090200", "20000102T110200")
}

func TestExpandByParts(t *testing.T) {
	expands(t, "19970512", "FREQ=YEARLY;BYWEEKNO=20;BYDAY=MO", "19970101", "20000101", "19970512", "19980511", "19990517")
	expands(t, "19970512", "FREQ=YEARLY;BYWEEKNO=20", "19970101", "20000101", "19970512", "19980511", "19990517")
	expands(t, "20201228", "FREQ=YEARLY;BYWEEKNO=-1;BYDAY=MO,SU", "20200101", "20220101", "20201228", "20210103", "20211227")
	expands(t, "20200101", "FREQ=YEARLY;BYYEARDAY=1,-1,366", "20200101", "20220102", "20200101", "20201231", "20210101", "20211231", "20220101")
	expands(t, "20200101", "FREQ=MONTHLY;BYMONTHDAY=-1,31", "20200101", "20200501", "20200101", "20200131", "20200229", "20200331", "20200430")
	expands(t, "19970519", "FREQ=YEARLY;BYDAY=20MO", "19970101", "20000101", "19970519", "19980518", "19990517")
	expands(t, "19970519", "FREQ=YEARLY;BYDAY=-1MO;BYMONTH=5", "19970101", "20000101", "19970519", "19970526", "19980525", "19990531")
	expands(t, "19970902", "FREQ=MONTHLY;BYDAY=FR;BYMONTHDAY=13", "19970101", "19990101", "19970902", "19980213", "19980313", "19981113")
	expands(t, "19970904", "FREQ=MONTHLY;COUNT=3;BYDAY=TU,WE,TH;BYSETPOS=3", "19970101", "19990101", "19970904", "19971007", "19971106")
	expands(t, "19970929", "FREQ=MONTHLY;BYDAY=MO,TU,WE,TH,FR;BYSETPOS=-2", "19970101", "19971201", "19970929", "19971030", "19971127")
	expands(t, "20000115", "FREQ=YEARLY;BYMONTH=3", "20000101", "20020101", "20000115", "20000315", "20010315")
}

func TestExpandOfCountAndUntil(t *testing.T) {
	// The start counts, whether it matches or not, and is there, whatever Until is.
	expands(t, "20000102", "FREQ=MONTHLY;BYMONTHDAY=1;COUNT=2", "20000101", "20010101", "20000102", "20000201")
	expands(t, "20000102", "FREQ=DAILY;UNTIL=19990101", "20000101", "20010101", "20000102")
	expands(t, "20000102", "FREQ=DAILY;UNTIL=20000104", "20000101", "20010101", "20000102", "20000103", "20000104")
	expands(t, "20000102", "FREQ=DAILY;COUNT=1", "20000101", "20010101", "20000102")
	expands(t, "20000102", "FREQ=DAILY;COUNT=5", "20000105", "20010101", "20000105", "20000106")
	expands(t, "20000102", "FREQ=DAILY;COUNT=5", "20000107", "20010101")
	// Candidates ahead of the start are none of the instances, but have their places.
	expands(t, "20000115", "FREQ=MONTHLY;BYMONTHDAY=1,10,20;BYSETPOS=3", "20000101", "20000301", "20000115", "20000120", "20000220")
	expands(t, "20000115", "FREQ=MONTHLY;BYMONTHDAY=1,10,20;BYSETPOS=1", "20000101", "20000301", "20000115", "20000201")
}

func TestExpandWindows(t *testing.T) {
	expands(t, "20000101", "FREQ=DAILY", "20000105", "20000107", "20000105", "20000106")
	expands(t, "20000101", "FREQ=DAILY", "20000104T000001Z", "20000106T000001", "20000105", "20000106")
	expands(t, "20000101", "FREQ=DAILY", "20000105", "20000105")
	expands(t, "20000101", "FREQ=DAILY", "20000107", "20000105")
	expands(t, "20000101", "FREQ=DAILY", "19990101", "20000101")
	expands(t, "99991230", "FREQ=DAILY", "20000101", "99991231T235959", "99991230", "99991231")
	expands(t, "99990101", "FREQ=YEARLY;INTERVAL=9999", "00010101", "99991231", "99990101")
	expands(t, "00010101", "FREQ=WEEKLY;BYDAY=SU,MO;WKST=SU", "00010101", "00010110", "00010101", "00010107", "00010108")
	expands(t, "00010103", "FREQ=WEEKLY;BYDAY=SU,MO;BYSETPOS=1;WKST=SU", "00010101", "00010110", "00010103", "00010107")
}

func TestExpandRefusesArguments(t *testing.T) {
	r := by("FREQ=DAILY")
	for _, c := range []struct {
		start, from, to api.Time
		r               api.Rule
	}{
		{api.Time{}, at("20000101"), at("20000101"), r}, {at("20000101"), api.Time{}, at("20000101"), r}, {at("20000101"), at("20000101"), api.Time{}, r},
		{at("20000101"), at("20000101"), at("20000101"), api.Rule{}}, {at("20000101"), at("20000101"), at("20000101"), by("FREQ=HOURLY")},
	} {
		l, e := recur.Expand(c.start, c.r, c.from, c.to)
		refused(t, e, api.ErrArg)
		if l != nil {
			t.Fatal("instances beside an error")
		}
	}
}

func TestExpandRefusesMany(t *testing.T) {
	// The period 40000 of the days from 2000-01-01 on is 2109-07-08.
	unexpanded(t, "20000101", "FREQ=DAILY", "21090701", "21090708T000001", api.ErrMany)
	expands(t, "20000101", "FREQ=DAILY", "21090706", "21090708", "21090706", "21090707")
	unexpanded(t, "20000101", "FREQ=DAILY;UNTIL=21090708", "20000101", "21090709", api.ErrMany)
	expands(t, "20000101", "FREQ=DAILY;UNTIL=21090707", "21090707", "99991231", "21090707")
	expands(t, "20000101T120000", "FREQ=DAILY;UNTIL=21090707T235959", "21090707", "99991231", "21090707T120000")
	unexpanded(t, "20000101T120000", "FREQ=DAILY;UNTIL=21090708T000000", "21090707", "99991231", api.ErrMany)
	expands(t, "20000101", "FREQ=DAILY;COUNT=9999", "20270516", "99991231", "20270516", "20270517")
	unexpanded(t, "20000101", "FREQ=DAILY;BYMONTH=1;BYMONTHDAY=1;COUNT=111", "20000101", "99991231", api.ErrMany)
	expands(t, "20000101", "FREQ=DAILY;BYMONTH=1;BYMONTHDAY=1;COUNT=110", "21080101", "99991231", "21080101", "21090101")
	unexpanded(t, "20000101", "FREQ=DAILY;BYMONTH=2;BYMONTHDAY=30;COUNT=2", "20000101", "99991231", api.ErrMany)
	expands(t, "20000101", "FREQ=DAILY;BYMONTH=2;BYMONTHDAY=30;COUNT=1", "20000101", "99991231", "20000101")
	expands(t, "20000101", "FREQ=DAILY;INTERVAL=9999", "20500101", "21000101", "20541002", "20820216")
	// The last period that is looked at is 2109-07-07.
	expands(t, "20000101", "FREQ=DAILY;BYMONTH=7;BYMONTHDAY=7;COUNT=111", "21090101", "99991231", "21090707")
	unexpanded(t, "20000101", "FREQ=DAILY;BYMONTH=7;BYMONTHDAY=8;COUNT=111", "21090101", "99991231", api.ErrMany)
	unexpanded(t, "98900625", "FREQ=DAILY", "99991230", "99991231T000001", api.ErrMany)
	expands(t, "98900625", "FREQ=DAILY", "99991230", "99991231", "99991230")
	unexpanded(t, "66650901", "FREQ=MONTHLY", "99981201", "99990102", api.ErrMany)
	expands(t, "66650901", "FREQ=MONTHLY", "99981201", "99990101", "99981201")
	unexpanded(t, "20000101T000000", "FREQ=SECONDLY", "20000101T110630", "20000101T110641", api.ErrMany)
	unexpanded(t, "20000101T000000", "FREQ=MINUTELY", "20000101T110630", "20010101", api.ErrMany)
	unexpanded(t, "20000101T000000", "FREQ=HOURLY", "20000101T110630", "20100101", api.ErrMany)
	unexpanded(t, "20000101", "FREQ=MONTHLY", "20000101", "99991231", api.ErrMany)
	unexpanded(t, "20000101", "FREQ=WEEKLY", "20000101", "30000101", api.ErrMany)
	expands(t, "20000101", "FREQ=YEARLY;BYMONTH=2;BYMONTHDAY=30", "20000101", "99991231", "20000101")
	// Of both that there is too much to look at is told.
	unexpanded(t, "20000101", "FREQ=DAILY", "20000101", "99991231", api.ErrMany)
}

func TestExpandRefusesMoreInstances(t *testing.T) {
	if l, e := recur.Expand(at("20000101"), by("FREQ=DAILY"), at("20000101"), at("20020927")); e != nil || len(l) != api.MaxInstances {
		t.Fatalf("%d, %v", len(l), e)
	}
	unexpanded(t, "20000101", "FREQ=DAILY", "20000101", "20020928", api.ErrInstance)
	if l, e := recur.Expand(at("20000101"), by("FREQ=DAILY;COUNT=1000"), at("20000101"), at("99991231")); e != nil || len(l) != api.MaxInstances {
		t.Fatalf("%d, %v", len(l), e)
	}
	unexpanded(t, "20000101", "FREQ=DAILY;COUNT=1001", "20000101", "99991231", api.ErrInstance)
}

// P11.3

func lasts(t *testing.T, start, r, to, want string) {
	t.Helper()
	got, ok, e := recur.Last(at(start), by(r), at(to))
	s, _ := when.Print(got)
	if e != nil || s != want || ok != (want != "") || !ok && got != (api.Time{}) {
		t.Fatalf("%s from %s on, last up to %s: %v, %v, %v; want %s", r, start, to, got, ok, e, want)
	}
}

func TestLast(t *testing.T) {
	lasts(t, "20000101", "FREQ=YEARLY", "19991231T235959", "")
	lasts(t, "20000101", "FREQ=YEARLY", "20000101", "20000101")
	lasts(t, "20000101T000000Z", "FREQ=YEARLY", "20031231", "20030101T000000Z")
	lasts(t, "20000101", "FREQ=YEARLY;UNTIL=20020101", "20500101", "20020101")
	lasts(t, "20000101", "FREQ=YEARLY;UNTIL=19990101", "20500101", "20000101")
	lasts(t, "20000101", "FREQ=YEARLY;COUNT=3", "20500101", "20020101")
	lasts(t, "20000101", "FREQ=YEARLY;COUNT=3", "20010601", "20010101")
	lasts(t, "20000101", "FREQ=YEARLY;COUNT=3", "20010101", "20010101")
	lasts(t, "20000101", "FREQ=YEARLY;BYMONTH=2;BYMONTHDAY=30", "99991231T235959", "20000101")
	lasts(t, "20000115", "FREQ=MONTHLY;BYMONTHDAY=1", "20000116", "20000115")
	lasts(t, "20000101T000000", "FREQ=SECONDLY", "20000101T110639", "20000101T110639")
	lasts(t, "20000101", "FREQ=DAILY", "21090707T235959", "21090707")
	for _, c := range []struct {
		start, at api.Time
		r         api.Rule
		want      api.Errno
	}{
		{at("20000101"), at("21090708"), by("FREQ=DAILY"), api.ErrMany}, {at("20000101T000000"), at("20000101T110640"), by("FREQ=SECONDLY"), api.ErrMany},
		{at("20000101"), api.Time{}, by("FREQ=DAILY"), api.ErrArg}, {api.Time{}, at("20000101"), by("FREQ=DAILY"), api.ErrArg}, {at("20000101"), at("20000101"), api.Rule{}, api.ErrArg},
	} {
		got, ok, e := recur.Last(c.start, c.r, c.at)
		refused(t, e, c.want)
		if ok || got != (api.Time{}) {
			t.Fatal("an instance beside an error")
		}
		is, e := recur.Is(c.start, c.r, c.at)
		refused(t, e, c.want)
		if is {
			t.Fatal("an instance beside an error")
		}
	}
}

func TestIs(t *testing.T) {
	for _, c := range []struct {
		start, r, t string
		want        bool
	}{
		{"20000101", "FREQ=DAILY", "20000101", true}, {"20000101", "FREQ=DAILY", "20000102", true}, {"20000101", "FREQ=DAILY", "19991231", false},
		{"20000101", "FREQ=DAILY", "20000102T000000", false}, {"20000101T000000", "FREQ=DAILY", "20000102", false}, {"20000101T000000", "FREQ=DAILY", "20000102T000000Z", false}, {"20000101T000000", "FREQ=DAILY", "20000102T000001", false},
		{"20000101", "FREQ=DAILY;COUNT=3", "20000103", true}, {"20000101", "FREQ=DAILY;COUNT=3", "20000104", false}, {"20000101", "FREQ=DAILY;UNTIL=20000103", "20000104", false},
		{"20000102", "FREQ=MONTHLY;BYMONTHDAY=1", "20000102", true}, {"20000102", "FREQ=MONTHLY;BYMONTHDAY=1", "20000101", false}, {"20000102", "FREQ=MONTHLY;BYMONTHDAY=1", "20000201", true},
		{"20000101", "FREQ=MONTHLY;BYDAY=MO;BYSETPOS=2", "20000207", false}, {"20000101", "FREQ=MONTHLY;BYDAY=MO;BYSETPOS=2", "20000214", true},
	} {
		if got, e := recur.Is(at(c.start), by(c.r), at(c.t)); e != nil || got != c.want {
			t.Errorf("%s from %s on, %s: %v, %v", c.r, c.start, c.t, got, e)
		}
	}
}
