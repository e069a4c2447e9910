package rule_test

import (
	"errors"
	"reflect"
	"strconv"
	"strings"
	"testing"

	"calends/api"
	"calends/rule"
)

func parses(t *testing.T, s, told string, want api.Rule) {
	t.Helper()
	r, e := rule.Parse(s)
	if e != nil || !reflect.DeepEqual(r, want) || !rule.Right(want) {
		t.Fatalf("Parse(%q): %+v, %v; want %+v", s, r, e, want)
	}
	if got, e := rule.Print(r); e != nil || got != told {
		t.Fatalf("Print of %q: %q, %v; want %q", s, got, e, told)
	}
}

func unparsed(t *testing.T, s string, want api.Errno) {
	t.Helper()
	r, e := rule.Parse(s)
	if !errors.Is(e, want) || api.Place(e) != 0 || !reflect.DeepEqual(r, api.Rule{}) {
		t.Fatalf("Parse(%.99q): %+v, %v; want %v", s, r, e, want)
	}
}

func is(t *testing.T, right bool, r api.Rule) {
	t.Helper()
	s, e := rule.Print(r)
	if rule.Right(r) != right || (e == nil) != right || e != nil && (!errors.Is(e, api.ErrArg) || s != "") {
		t.Fatalf("%+v: %v, %q, %v; want %v", r, rule.Right(r), s, e, right)
	}
}

func every(freq int) api.Rule { return api.Rule{Freq: freq, Interval: 1} }

func day(n, d int) api.Nth { return api.Nth{N: n, Day: d} }

func until() api.Time {
	return api.Time{Day: api.Day{Year: 1997, Month: 12, Date: 24}, UTC: true}
}

// upTo is the numbers from one to another one.
func upTo(a, b int) []int {
	var l []int
	for ; a <= b; a++ {
		l = append(l, a)
	}
	return l
}

// commas is numbers as a list.
func commas(l []int) string {
	var s []string
	for _, n := range l {
		s = append(s, strconv.Itoa(n))
	}
	return strings.Join(s, ",")
}

// P10.1

func TestRightOfPlainRules(t *testing.T) {
	for freq := -1; freq <= 7; freq++ {
		is(t, freq >= 0 && freq <= 6, every(freq))
	}
	is(t, false, api.Rule{})
	for n, right := range map[int]bool{-1: false, 0: false, 1: true, 9999: true, 10000: false} {
		is(t, right, api.Rule{Interval: n})
		is(t, right || n == 0, api.Rule{Interval: 1, Count: n})
	}
	for n := -1; n <= 7; n++ {
		is(t, n >= 0 && n <= 6, api.Rule{Interval: 1, Wkst: n})
	}
	is(t, true, api.Rule{Interval: 1, Until: []api.Time{until()}})
	is(t, false, api.Rule{Interval: 1, Until: []api.Time{until()}, Count: 1})
	is(t, false, api.Rule{Interval: 1, Until: []api.Time{until(), until()}})
	is(t, false, api.Rule{Interval: 1, Until: []api.Time{{}}})
}

func TestRightOfLists(t *testing.T) {
	for _, c := range []struct {
		put                func(r *api.Rule, l []int)
		freq, least, most  int
		also, narrowNeeded bool
	}{
		{func(r *api.Rule, l []int) { r.Second = l }, api.Daily, 0, 59, false, false},
		{func(r *api.Rule, l []int) { r.Minute = l }, api.Daily, 0, 59, false, false},
		{func(r *api.Rule, l []int) { r.Hour = l }, api.Daily, 0, 23, false, false},
		{func(r *api.Rule, l []int) { r.Month = l }, api.Daily, 1, 12, false, false},
		{func(r *api.Rule, l []int) { r.MonthDay = l }, api.Daily, 1, 31, true, false},
		{func(r *api.Rule, l []int) { r.YearDay = l }, api.Yearly, 1, 366, true, false},
		{func(r *api.Rule, l []int) { r.WeekNo = l }, api.Yearly, 1, 53, true, false},
		{func(r *api.Rule, l []int) { r.SetPos = l }, api.Daily, 1, 366, true, true},
	} {
		try := func(right bool, l ...int) {
			t.Helper()
			r := every(c.freq)
			c.put(&r, l)
			if c.narrowNeeded {
				is(t, false, r)
				r.Days = []api.Nth{day(0, 1)}
			}
			is(t, right, r)
		}
		try(true, c.least)
		try(true, c.most)
		try(true, c.least, c.most)
		try(false, c.least, c.least)
		try(false, c.most, c.least)
		try(false, c.most+1)
		try(false, c.least-1)
		try(c.also, -c.most)
		try(c.also, -1)
		try(false, -c.most-1)
		if c.most > api.MaxBy {
			try(true, upTo(c.least, c.least+api.MaxBy-1)...)
			try(false, upTo(c.least, c.least+api.MaxBy)...)
		}
	}
}

func TestRightOfDays(t *testing.T) {
	try := func(right bool, freq int, weeks []int, l ...api.Nth) {
		t.Helper()
		r := every(freq)
		r.Days, r.WeekNo = l, weeks
		is(t, right, r)
	}
	for freq := range 7 {
		try(true, freq, nil, day(0, 0), day(0, 6))
		try(freq <= api.Monthly, freq, nil, day(1, 0))
		try(freq <= api.Monthly, freq, nil, day(-5, 0), day(5, 0))
		try(freq == api.Yearly, freq, nil, day(6, 0))
		try(freq == api.Yearly, freq, nil, day(-53, 0), day(53, 0))
		try(false, freq, nil, day(54, 0))
		try(false, freq, nil, day(-54, 0))
		try(false, freq, nil, day(0, 7))
		try(false, freq, nil, day(0, -1))
		try(false, freq, nil, day(0, 1), day(0, 1))
		try(false, freq, nil, day(0, 1), day(0, 0))
	}
	try(true, api.Monthly, nil, day(5, 0), day(-5, 1))
	try(false, api.Monthly, nil, day(1, 0), day(0, 0))
	try(false, api.Yearly, []int{1}, day(1, 0))
	try(true, api.Yearly, []int{1}, day(0, 0))
	var many []api.Nth
	for n := range api.MaxBy + 1 {
		many = append(many, day(n, 3))
	}
	try(true, api.Yearly, nil, many[1:]...)
	try(false, api.Yearly, nil, many...)
}

func TestRightByFrequency(t *testing.T) {
	for freq := range 7 {
		r := every(freq)
		r.WeekNo = []int{1}
		is(t, freq == api.Yearly, r)
		r = every(freq)
		r.YearDay = []int{1}
		is(t, freq == api.Yearly || freq >= api.Hourly, r)
		r = every(freq)
		r.MonthDay = []int{1}
		is(t, freq != api.Weekly, r)
	}
}

func TestRightOfSetPosAndClock(t *testing.T) {
	for _, put := range []func(*api.Rule){
		func(r *api.Rule) { r.Month = []int{1} }, func(r *api.Rule) { r.WeekNo = []int{1} }, func(r *api.Rule) { r.YearDay = []int{1} }, func(r *api.Rule) { r.MonthDay = []int{1} },
		func(r *api.Rule) { r.Days = []api.Nth{{}} }, func(r *api.Rule) { r.Hour = []int{1} }, func(r *api.Rule) { r.Minute = []int{1} }, func(r *api.Rule) { r.Second = []int{0} },
	} {
		r := every(api.Yearly)
		r.SetPos = []int{-1}
		is(t, false, r)
		put(&r)
		is(t, true, r)
	}
	r := every(api.Daily)
	r.Hour, r.Minute = upTo(0, 23), upTo(0, 1)
	is(t, true, r)
	r.Second = []int{5}
	is(t, true, r)
	r.Second = []int{5, 6}
	is(t, false, r)
	for _, l := range []api.Rule{{Minute: upTo(0, 23), Second: upTo(0, 1)}, {Hour: upTo(0, 23), Second: upTo(0, 1)}, {Hour: upTo(0, 23), Minute: upTo(0, 1)}} {
		l.Interval = 1
		is(t, true, l)
	}
	r.Second = nil
	r.Hour, r.Minute = upTo(0, 6), upTo(0, 6)
	is(t, false, r)
	r.Second = nil
	is(t, false, r)
}

func TestNorm(t *testing.T) {
	in := api.Rule{Freq: 9, Interval: -1, Until: []api.Time{until(), {}}, Month: []int{3, 1, 3}, WeekNo: []int{5, -1}, YearDay: []int{2, 2}, MonthDay: []int{31, -31}, Days: []api.Nth{day(0, 4), day(-1, 0), day(0, 4), day(2, 0), day(1, 0)}, Hour: []int{2, 1}, Minute: []int{4, 3}, Second: []int{60, 5}, SetPos: []int{1, -1, 1}, Wkst: 8}
	want := api.Rule{Freq: 9, Interval: -1, Until: []api.Time{until(), {}}, Month: []int{1, 3}, WeekNo: []int{-1, 5}, YearDay: []int{2}, MonthDay: []int{-31, 31}, Days: []api.Nth{day(-1, 0), day(1, 0), day(2, 0), day(0, 4)}, Hour: []int{1, 2}, Minute: []int{3, 4}, Second: []int{5, 60}, SetPos: []int{-1, 1}, Wkst: 8}
	got := rule.Norm(in)
	if !reflect.DeepEqual(got, want) || !reflect.DeepEqual(rule.Norm(got), want) {
		t.Fatalf("%+v", got)
	}
	got.Until[0], got.Month[0], got.Days[0] = api.Time{}, 7, api.Nth{}
	if in.Until[0] != until() || in.Month[1] != 1 || in.Days[0] != day(0, 4) || in.SetPos[0] != 1 {
		t.Fatalf("what was handed in has changed: %+v", in)
	}
}

// P10.2 and P10.3

func TestParse(t *testing.T) {
	parses(t, "FREQ=DAILY", "FREQ=DAILY", every(api.Daily))
	parses(t, "freq=monthly;BYDAY=FR,-1MO,fr", "FREQ=MONTHLY;BYDAY=-1MO,FR", api.Rule{Freq: api.Monthly, Interval: 1, Days: []api.Nth{day(-1, 0), day(0, 4)}})
	parses(t, "wkst=su;Count=0010;Freq=Weekly;INTERVAL=+2", "FREQ=WEEKLY;INTERVAL=2;COUNT=10;WKST=SU", api.Rule{Freq: api.Weekly, Interval: 2, Count: 10, Wkst: 6})
	parses(t, "UNTIL=19971224T000000Z;FREQ=YEARLY;INTERVAL=1;WKST=MO", "FREQ=YEARLY;UNTIL=19971224T000000Z", api.Rule{Interval: 1, Until: []api.Time{until()}})
	parses(t, "FREQ=YEARLY;BYSETPOS=3,-2,+3;BYSECOND=9,0;BYMINUTE=0;BYHOUR=08;BYDAY=+20mo,-1tU;BYMONTHDAY=-1,15;BYYEARDAY=-366,1;BYMONTH=12,1",
		"FREQ=YEARLY;BYMONTH=1,12;BYYEARDAY=-366,1;BYMONTHDAY=-1,15;BYDAY=20MO,-1TU;BYHOUR=8;BYMINUTE=0;BYSECOND=0,9;BYSETPOS=-2,3",
		api.Rule{Interval: 1, Month: []int{1, 12}, YearDay: []int{-366, 1}, MonthDay: []int{-1, 15}, Days: []api.Nth{day(20, 0), day(-1, 1)}, Hour: []int{8}, Minute: []int{0}, Second: []int{0, 9}, SetPos: []int{-2, 3}})
	parses(t, "FREQ=YEARLY;BYWEEKNO=20,-53", "FREQ=YEARLY;BYWEEKNO=-53,20", api.Rule{Interval: 1, WeekNo: []int{-53, 20}})
	for at, word := range []string{"YEARLY", "MONTHLY", "WEEKLY", "DAILY", "HOURLY", "MINUTELY", "SECONDLY"} {
		parses(t, "FREQ="+word, "FREQ="+word, every(at))
	}
	for at, word := range []string{"MO", "TU", "WE", "TH", "FR", "SA", "SU"} {
		parses(t, "FREQ=DAILY;BYDAY="+word, "FREQ=DAILY;BYDAY="+word, api.Rule{Freq: api.Daily, Interval: 1, Days: []api.Nth{day(0, at)}})
	}
	// Each counts once, so that more than there may be are read.
	parses(t, "FREQ=DAILY;BYMONTH="+commas(append(upTo(1, 12), upTo(1, 12)...))+",1", "FREQ=DAILY;BYMONTH=1,2,3,4,5,6,7,8,9,10,11,12", api.Rule{Freq: api.Daily, Interval: 1, Month: upTo(1, 12)})
}

func TestParseRefusesOtherTexts(t *testing.T) {
	for _, s := range []string{
		"", ";", "FREQ", "FREQ=", "FREQ=NEVER", "FREQ=DAILY;", ";FREQ=DAILY", "FREQ=DAILY;;WKST=MO", "COUNT=5", "FREQ=DAILY;FREQ=DAILY", "FREQ=DAILY;COUNT=1;count=1",
		"FREQ=DAILY;X=1", "FREQ=DAILY ", " FREQ=DAILY", "FREQ =DAILY", "FREQ=DAILY;INTERVAL=", "FREQ=DAILY;INTERVAL=a", "FREQ=DAILY;INTERVAL=00001", "FREQ=DAILY;INTERVAL=+", "FREQ=DAILY;INTERVAL=--1", "FREQ=DAILY;COUNT=1,2",
		"FREQ=DAILY;UNTIL=", "FREQ=DAILY;UNTIL=1997", "FREQ=DAILY;UNTIL=19970229", "FREQ=DAILY;UNTIL=19971224T000000ZZ", "freq=daily;until=19971224x000000z", "freq=daily;until=19971224z", "freq=daily;until=t000000z", "FREQ=DAILY;UNTIL=19971224,19971225",
		"FREQ=DAILY;BYMONTH=", "FREQ=DAILY;BYMONTH=1,", "FREQ=DAILY;BYMONTH=,1", "FREQ=DAILY;BYMONTH=1;BYMONTH=2", "FREQ=DAILY;BYMONTH=1 ,2",
		"FREQ=DAILY;BYDAY=", "FREQ=DAILY;BYDAY=M", "FREQ=DAILY;BYDAY=MON", "FREQ=DAILY;BYDAY=1", "FREQ=MONTHLY;BYDAY=0MO", "FREQ=MONTHLY;BYDAY=-0000MO", "FREQ=MONTHLY;BYDAY=+MO", "FREQ=YEARLY;BYDAY=00001MO", "FREQ=DAILY;WKST=", "FREQ=DAILY;WKST=1MO", "FREQ=DAILY;BYDAY=É",
		"FREQ=DAILY;COUNT=0;X=1", "FREQ=DAILY;BYMONTH=13;BYDAY=XX", "FREQ=DAILY=1",
	} {
		unparsed(t, s, api.ErrForm)
	}
}

func TestParseRefusesWrongRules(t *testing.T) {
	for _, s := range []string{
		"FREQ=DAILY;COUNT=0", "FREQ=DAILY;COUNT=-5", "FREQ=DAILY;INTERVAL=0", "FREQ=DAILY;INTERVAL=-1", "FREQ=DAILY;COUNT=1;UNTIL=19971224",
		"FREQ=DAILY;BYMONTH=0", "FREQ=DAILY;BYMONTH=13", "FREQ=DAILY;BYMONTH=-1", "FREQ=DAILY;BYHOUR=24", "FREQ=DAILY;BYMINUTE=60", "FREQ=DAILY;BYSECOND=60", "FREQ=DAILY;BYMONTHDAY=0", "FREQ=DAILY;BYMONTHDAY=32",
		"FREQ=DAILY;BYYEARDAY=1", "FREQ=WEEKLY;BYMONTHDAY=1", "FREQ=MONTHLY;BYWEEKNO=1", "FREQ=DAILY;BYDAY=1MO", "FREQ=MONTHLY;BYDAY=6MO", "FREQ=YEARLY;BYDAY=54MO", "FREQ=YEARLY;BYWEEKNO=1;BYDAY=1MO", "FREQ=DAILY;BYSETPOS=1", "FREQ=DAILY;BYDAY=MO;BYSETPOS=367",
		"FREQ=DAILY;BYMINUTE=" + commas(upTo(0, 24)), "FREQ=DAILY;BYHOUR=1,2,3,4,5,6,7;BYMINUTE=1,2,3,4,5,6,7",
	} {
		unparsed(t, s, api.ErrRange)
	}
}

// P10.4 and P10.5

// dice are numbers that are the same in each run.
type dice uint64

func (d *dice) below(n int) int {
	*d = *d*6364136223846793005 + 1442695040888963407
	return int(uint64(*d)>>33) % n
}

func (d *dice) list(least, most int) []int {
	var l []int
	for range d.below(4) - 1 {
		if n := least + d.below(most-least+1); n != 0 || least == 0 {
			l = append(l, n)
		}
	}
	return l
}

// TestLettersChangeNothing puts each letter of a text, and all of them, into small ones: what is read stays the same.
func TestLettersChangeNothing(t *testing.T) {
	for _, s := range []string{
		"FREQ=MINUTELY;INTERVAL=3;UNTIL=00010420T064559;BYMONTH=1;BYSECOND=6",
		"FREQ=DAILY;UNTIL=20240131T235959Z",
		"FREQ=WEEKLY;UNTIL=20240131;BYDAY=MO,FR;WKST=SU",
		"FREQ=YEARLY;COUNT=7;BYMONTH=3;BYYEARDAY=-1;BYMONTHDAY=5;BYDAY=-1TU,20WE,TH,SA;BYHOUR=1;BYMINUTE=2;BYSECOND=3;BYSETPOS=-1",
		"FREQ=YEARLY;BYWEEKNO=-53;WKST=TU", "FREQ=MONTHLY;BYDAY=5SA", "FREQ=HOURLY", "FREQ=SECONDLY",
	} {
		r, e := rule.Parse(s)
		if e != nil {
			t.Fatalf("Parse(%q): %v", s, e)
		}
		parses(t, s, s, r)
		parses(t, strings.ToLower(s), s, r)
		for at := range s {
			parses(t, s[:at]+strings.ToLower(s[at:at+1])+s[at+1:], s, r)
		}
	}
	// Only a to z are letters that are small or great: others that Unicode turns into K, S or I are not.
	for _, s := range []string{"FREQ=wee\u212aly", "FREQ=DAILY;W\u212aST=MO", "FREQ=DAILY;BYDAY=\u017fU", "FREQ=DA\u0131LY"} {
		unparsed(t, s, api.ErrForm)
	}
}

func TestBackAndAgain(t *testing.T) {
	right := 0
	for seed := range 20000 {
		d := dice(seed)
		r := api.Rule{Freq: d.below(7), Interval: 1 + d.below(3), Wkst: d.below(7), Month: d.list(1, 12), MonthDay: d.list(-31, 31), Hour: d.list(0, 23), Minute: d.list(0, 59), Second: d.list(0, 59)}
		switch d.below(4) {
		case 0:
			r.Count = d.below(api.MaxCount)
		case 1:
			r.Until = []api.Time{until()}
		case 2:
			r.WeekNo, r.YearDay, r.SetPos = d.list(-53, 53), d.list(-366, 366), d.list(-366, 366)
		case 3:
			for range d.below(5) {
				r.Days = append(r.Days, day(d.below(5)-2, d.below(7)))
			}
		}
		r = rule.Norm(r)
		s, e := rule.Print(r)
		if e != nil {
			is(t, false, r)
			continue
		}
		right++
		parses(t, s, s, r)
		parts := strings.Split(strings.ToLower(s), ";")
		for i := range parts {
			j := d.below(i + 1)
			parts[i], parts[j] = parts[j], parts[i]
		}
		parses(t, strings.Join(parts, ";"), s, r)
	}
	if right < 3000 {
		t.Fatalf("only %d rules are right", right)
	}
}
