package query_test

import (
	"errors"
	"fmt"
	"slices"
	"sort"
	"testing"

	"calends/api"
	"calends/query"
	"calends/recur"
	"calends/rule"
	"calends/when"
)

// at reads a moment, perhaps in a zone.
func at(s string, zone ...string) api.Moment {
	t, e := when.Parse(s)
	if e != nil {
		panic(s)
	}
	m := api.Moment{Time: t}
	for _, z := range zone {
		m.Zone = z
	}
	return m
}

func ats(l ...string) []api.Moment {
	var all []api.Moment
	for _, s := range l {
		all = append(all, at(s))
	}
	return all
}

func by(s string) []api.Rule {
	r, e := rule.Parse(s)
	if e != nil {
		panic(s)
	}
	return []api.Rule{r}
}

// east is 5 hours behind Greenwich in winter, and 4 in summer.
func east() api.Zone {
	return api.Zone{ID: "East", Obs: []api.Obs{
		{Name: "DAYLIGHT", Start: at("19870405T020000").Time, From: -18000, To: -14400, Rule: by("FREQ=YEARLY;BYMONTH=4;BYDAY=1SU")},
		{Name: "STANDARD", Start: at("19871025T020000").Time, From: -14400, To: -18000, Rule: by("FREQ=YEARLY;BYMONTH=10;BYDAY=-1SU")},
	}}
}

// entry is one that starts at a moment, changed.
func entry(start api.Moment, change func(*api.Object)) api.Object {
	o := api.Object{Kind: "VEVENT", UID: "a", Zones: []api.Zone{east()}, Main: api.Item{Start: start}}
	change(&o)
	return o
}

func same(*api.Object) {}

func refused(t *testing.T, e error, want api.Errno) {
	t.Helper()
	if !errors.Is(e, want) || api.Place(e) != 0 {
		t.Fatalf("%v; want %v", e, want)
	}
}

// told is an instance as a text.
func told(x api.Inst) string {
	s, _ := when.Print(x.Start)
	e, _ := when.Print(x.End)
	w, _ := when.Print(x.Which)
	if x.Over {
		w += " other"
	}
	return s + " " + e + " " + w
}

func has(t *testing.T, o api.Object, from, to string, want ...string) {
	t.Helper()
	l, e := query.Instances(o, at(from).Time, at(to).Time)
	var got []string
	for _, x := range l {
		got = append(got, told(x))
	}
	if e != nil || !slices.Equal(got, want) {
		t.Fatalf("from %s to %s: %q, %v; want %q", from, to, got, e, want)
	}
}

func hasNot(t *testing.T, o api.Object, from, to string, want api.Errno) {
	t.Helper()
	l, e := query.Instances(o, at(from).Time, at(to).Time)
	refused(t, e, want)
	if len(l) != 0 {
		t.Fatal("instances beside an error")
	}
}

// P14.1

func TestLong(t *testing.T) {
	o := entry(at("20000101"), same)
	for _, c := range []struct {
		x    api.Item
		want int
	}{
		{api.Item{Start: at("20000101")}, 86400}, {api.Item{Start: at("20000101T100000")}, 0}, {api.Item{Start: at("20000101T100000Z")}, 0},
		{api.Item{Start: at("20000101T100000"), Span: []int{5}}, 5}, {api.Item{Start: at("20000101"), End: ats("20000103")}, 172800},
		{api.Item{Start: at("20000101"), End: ats("20000101")}, 86400}, {api.Item{Start: at("20000101T100000"), End: ats("20000101T090000")}, 0}, {api.Item{Start: at("20000101T100000"), End: []api.Moment{{}}}, 0},
		{api.Item{Start: at("20000101"), Span: []int{0, 5}}, 86400}, {api.Item{Start: at("20000101"), Span: []int{-5}}, 86400}, {api.Item{Start: at("20000101"), Span: []int{7, 5}}, 7},
		{api.Item{Start: at("20000101"), Span: []int{0}, End: ats("20000103")}, 172800}, {api.Item{Start: at("20000101"), Span: []int{9}, End: ats("20000103")}, 9}, {api.Item{Start: at("20000101"), End: ats("20000103", "20000104")}, 172800},
		{api.Item{Start: at("20000101T100000", "Nowhere"), Span: []int{5}, Rule: make([]api.Rule, 3)}, 5},
		{api.Item{}, 0}, {api.Item{Span: []int{5}}, 0}, {api.Item{Start: api.Moment{Time: api.Time{Day: api.Day{Year: 2001, Month: 2, Date: 29}, Bare: true}}}, 0},
	} {
		if n := query.Long(o, c.x); n != c.want {
			t.Errorf("Long(%+v): %d; want %d", c.x, n, c.want)
		}
	}
	if query.Long(api.Object{}, o.Main) != 0 {
		t.Error("an object that is not right has items")
	}
}

func TestMoment(t *testing.T) {
	o := entry(at("20000101"), same)
	for _, c := range []struct {
		m    api.Moment
		want string
	}{
		{at("20000101"), "20000101T000000Z"}, {at("20000101T100000"), "20000101T100000Z"}, {at("20000101T100000Z"), "20000101T100000Z"}, {at("20000101T100000", "East"), "20000101T150000Z"}, {at("20000701T100000", "East"), "20000701T140000Z"},
	} {
		x, e := query.Moment(o, c.m)
		if s, _ := when.Print(x); e != nil || s != c.want {
			t.Errorf("Moment(%v): %s, %v; want %s", c.m, s, e, c.want)
		}
	}
	for _, m := range []api.Moment{{}, at("20000101T100000", "West"), at("20000101", "East"), at("20000101T100000Z", "East")} {
		x, e := query.Moment(o, m)
		refused(t, e, api.ErrArg)
		if x != (api.Time{}) {
			t.Fatal("a time beside an error")
		}
	}
	_, e := query.Moment(api.Object{}, at("20000101"))
	refused(t, e, api.ErrArg)
	_, e = query.Moment(o, at("99991231T235959", "East"))
	refused(t, e, api.ErrRange)
}

// P14.2

func TestExample(t *testing.T) {
	o := entry(at("20000101"), func(o *api.Object) {
		o.Main.Rule, o.Main.EXDates = by("FREQ=DAILY"), ats("20000102")
	})
	has(t, o, "20000101T000000Z", "20000104T000000Z", "20000101T000000Z 20000102T000000Z 20000101", "20000103T000000Z 20000104T000000Z 20000103")
}

func TestWindowOfOne(t *testing.T) {
	o := entry(at("20000101T100000Z"), func(o *api.Object) { o.Main.Span = []int{3600} })
	one := "20000101T100000Z 20000101T110000Z 20000101T100000Z"
	has(t, o, "20000101T000000Z", "20000101T100000Z")
	has(t, o, "20000101T000000Z", "20000101T100001Z", one)
	has(t, o, "20000101T105959Z", "20010101T000000Z", one)
	has(t, o, "20000101T110000Z", "20010101T000000Z")
	has(t, o, "20000101T103000Z", "20000101T103000Z", one)
	o = entry(at("20000101T100000Z"), same)
	one = "20000101T100000Z 20000101T100000Z 20000101T100000Z"
	has(t, o, "20000101T100000Z", "20000101T100001Z", one)
	has(t, o, "20000101T100000Z", "20000101T100000Z")
	has(t, o, "20000101T090000Z", "20000101T100000Z")
	has(t, o, "20000101T100001Z", "20010101T000000Z")
}

func TestZonesAndForms(t *testing.T) {
	o := entry(at("20000403T100000", "East"), func(o *api.Object) {
		o.Main.Rule, o.Main.End = by("FREQ=YEARLY;BYMONTH=4;BYMONTHDAY=1,3;COUNT=3"), []api.Moment{at("20000403T110000", "East")}
	})
	has(t, o, "20000101T000000Z", "20020501T000000Z", "20000403T140000Z 20000403T150000Z 20000403T100000", "20010401T140000Z 20010401T150000Z 20010401T100000", "20010403T140000Z 20010403T150000Z 20010403T100000")
	has(t, entry(at("20000101T100000"), same), "20000101T000000Z", "20000102T000000Z", "20000101T100000Z 20000101T100000Z 20000101T100000")
}

func TestDatesAndPlaces(t *testing.T) {
	o := entry(at("20000101"), func(o *api.Object) {
		o.Main.RDates, o.Main.EXDates = ats("20000101", "20000105", "20000109"), ats("20000105", "20000107")
		o.Over = []api.Item{
			{Recur: ats("20000105"), Start: at("20000106T000000Z")},                   // its time is taken away
			{Recur: ats("20000108"), Start: at("20000106T000000Z")},                   // it is none of the times
			{Recur: ats("20000109"), Start: at("20000102T000000"), Span: []int{3600}}, // it comes ahead
		}
	})
	has(t, o, "20000101T000000Z", "20000201T000000Z", "20000101T000000Z 20000102T000000Z 20000101", "20000102T000000Z 20000102T010000Z 20000109 other")
	o.Over = []api.Item{{Recur: ats("20000101"), Start: at("20000109")}}
	has(t, o, "20000101T000000Z", "20000201T000000Z", "20000109T000000Z 20000110T000000Z 20000101 other", "20000109T000000Z 20000110T000000Z 20000109")
	o.Main.Rule, o.Main.EXDates = by("FREQ=DAILY;UNTIL=20000104"), ats("20000101", "20000103")
	has(t, o, "20000101T000000Z", "20000201T000000Z", "20000102T000000Z 20000103T000000Z 20000102", "20000104T000000Z 20000105T000000Z 20000104", "20000105T000000Z 20000106T000000Z 20000105", "20000109T000000Z 20000110T000000Z 20000109")
	o.Over = []api.Item{{Recur: ats("20000102"), Start: at("20500101T000000Z")}}
	has(t, o, "20490101T000000Z", "20510201T000000Z", "20500101T000000Z 20500101T000000Z 20000102 other")
}

func TestEdgesOfAllTime(t *testing.T) {
	o := entry(at("00010101"), func(o *api.Object) { o.Main.Rule = by("FREQ=YEARLY") })
	has(t, o, "00010101T000000Z", "00010102T000000Z", "00010101T000000Z 00010102T000000Z 00010101")
	has(t, entry(at("99991231T235959Z"), same), "99991231T000000Z", "99991231T235959Z")
	has(t, entry(at("99991231T235958Z"), func(o *api.Object) { o.Main.Span = []int{1} }), "99991231T000000Z", "99991231T235959Z", "99991231T235958Z 99991231T235959Z 99991231T235958Z")
	o = entry(at("99991229"), func(o *api.Object) { o.Main.Rule = by("FREQ=DAILY") })
	// The rule's last day has no instance of its own.
	has(t, o, "99991230T000000Z", "99991231T235959Z", "99991230T000000Z 99991231T000000Z 99991230")
	o = entry(at("99991229T235959Z"), func(o *api.Object) { o.Main.Rule = by("FREQ=DAILY") })
	has(t, o, "99991230T000000Z", "99991231T235959Z", "99991230T235959Z 99991230T235959Z 99991230T235959Z")
}

func TestInstancesRefuses(t *testing.T) {
	o := entry(at("20000101"), same)
	for _, c := range []struct{ from, to api.Time }{
		{api.Time{}, at("20000101T000000Z").Time}, {at("20000101T000000Z").Time, api.Time{}}, {at("20000101").Time, at("20000102T000000Z").Time}, {at("20000101T000000").Time, at("20000102T000000Z").Time},
		{at("20000101T000000Z").Time, at("20000102T000000").Time}, {at("20000101T000001Z").Time, at("20000101T000000Z").Time},
	} {
		_, e := query.Instances(o, c.from, c.to)
		refused(t, e, api.ErrArg)
	}
	hasNot(t, api.Object{}, "20000101T000000Z", "20000102T000000Z", api.ErrArg)
	daily := entry(at("20000101"), func(o *api.Object) { o.Main.Rule = by("FREQ=DAILY") })
	hasNot(t, daily, "20000101T000000Z", "20500101T000000Z", api.ErrInstance)
	hasNot(t, daily, "22000101T000000Z", "22000102T000000Z", api.ErrMany)
	daily.Over = []api.Item{{Recur: ats("22000101"), Start: at("20000101")}}
	hasNot(t, daily, "20000101T000000Z", "20000102T000000Z", api.ErrMany)
	hasNot(t, daily, "20000101T000000Z", "20500101T000000Z", api.ErrInstance)
	// Moments that there are not: of a time, of an item in its place, but not of one whose time is none.
	hasNot(t, entry(at("99991231T235959", "East"), same), "20000101T000000Z", "20000102T000000Z", api.ErrRange)
	late := entry(at("20000101"), func(o *api.Object) {
		o.Over = []api.Item{{Recur: ats("20000101"), Start: at("99991231T235959", "East")}}
	})
	hasNot(t, late, "20000101T000000Z", "20000102T000000Z", api.ErrRange)
	late.Over[0].Recur = ats("20000102")
	has(t, late, "20000101T000000Z", "20000102T000000Z", "20000101T000000Z 20000102T000000Z 20000101")
	late = entry(at("20000101T000000", "East"), func(o *api.Object) {
		o.Main.RDates = []api.Moment{at("99991231T235959", "East")}
	})
	hasNot(t, late, "20000101T000000Z", "20000102T000000Z", api.ErrRange)
	late.Main.EXDates = late.Main.RDates
	has(t, late, "20000101T000000Z", "20000102T000000Z", "20000101T050000Z 20000101T050000Z 20000101T000000")
	long := entry(at("99991231T000000Z"), func(o *api.Object) { o.Main.Span = []int{86400} })
	hasNot(t, long, "99991230T000000Z", "99991231T235959Z", api.ErrRange)
	has(t, long, "99991230T000000Z", "99991231T000000Z")
}

// The rule is looked at from two days, and as long as the entry is, ahead of the window, up to two days behind it.
func TestMargins(t *testing.T) {
	daily := func(start string, span int) api.Object {
		return entry(at(start), func(o *api.Object) {
			o.Main.Rule = by("FREQ=DAILY")
			if span > 0 {
				o.Main.Span = []int{span}
			}
		})
	}
	// The thousandth day from 2000-01-01 on is 2002-09-26.
	for _, c := range []struct {
		start, from, to string
		span            int
		ok              bool
	}{
		{"20000101T000000Z", "20000103T000000Z", "20020925T000000Z", 0, true}, {"20000101T000000Z", "20000103T000000Z", "20020925T000001Z", 0, false}, {"20000101T000000Z", "20000103T000001Z", "20020925T000001Z", 0, true},
		{"20000101T000000Z", "20000103T000001Z", "20020925T000001Z", 1, false}, {"20000101T000000Z", "20000103T000002Z", "20020925T000001Z", 1, true},
		{"20000101", "20000105T000000Z", "20020925T000000Z", 86400, true}, {"20000101", "20000103T235959Z", "20020926T000000Z", 86400, false}, {"20000101", "20000105T000000Z", "20020925T235959Z", 86400, true}, {"20000101", "20000105T000000Z", "20020926T235959Z", 86400, true}, {"20000101", "20000105T000000Z", "20020927T000000Z", 86400, false},
	} {
		_, e := query.Instances(daily(c.start, c.span), at(c.from).Time, at(c.to).Time)
		if c.ok && e != nil || !c.ok && !errors.Is(e, api.ErrInstance) {
			t.Errorf("%v: %v", c, e)
		}
	}
	// The period 40000 is 2109-07-08.
	hasNot(t, daily("20000101T000000Z", 0), "21090701T000000Z", "21090706T000001Z", api.ErrMany)
	hasNot(t, daily("20000101", 0), "21090701T000000Z", "21090707T000000Z", api.ErrMany)
	for _, c := range [][2]string{{"20000101T000000Z", "21090706T000000Z"}, {"20000101", "21090706T235959Z"}} {
		if l, e := query.Instances(daily(c[0], 0), at("21090701T000000Z").Time, at(c[1]).Time); e != nil || len(l) < 5 {
			t.Errorf("%v: %v, %v", c, l, e)
		}
	}
}

func TestThousandInstances(t *testing.T) {
	o := entry(at("20000101T000000Z"), func(o *api.Object) {
		o.Main.Rule = by("FREQ=HOURLY;COUNT=999")
		o.Main.RDates = ats("20200101T000000Z")
	})
	l, e := query.Instances(o, at("20000101T000000Z").Time, at("20210101T000000Z").Time)
	if e != nil || len(l) != api.MaxInstances {
		t.Fatalf("%d, %v", len(l), e)
	}
	o.Main.RDates = ats("20200101T000000Z", "20200102T000000Z")
	hasNot(t, o, "20000101T000000Z", "20210101T000000Z", api.ErrInstance)
}

// P14.3 to P14.5

// dice are numbers that are the same in each run.
type dice uint64

func (d *dice) below(n int) int {
	*d = *d*6364136223846793005 + 1442695040888963407
	return int(uint64(*d)>>33) % n
}

func (d *dice) dates(like api.Moment) []api.Moment {
	seen := map[int]bool{}
	for range d.below(5) {
		seen[d.below(20)] = true
	}
	var l []api.Moment
	for n := range 20 {
		if seen[n] {
			m := like
			m.Time = when.At(when.Seconds(like.Time)+n*86400, like.Time)
			l = append(l, m)
		}
	}
	return l
}

func (d *dice) entry() api.Object {
	start := []api.Moment{at("20000320"), at("20000320T233000", "East"), at("20000320T120000Z"), at("20000320T120000")}[d.below(4)]
	return entry(start, func(o *api.Object) {
		o.Main.RDates, o.Main.EXDates = d.dates(start), d.dates(start)
		o.Main.Span = []int{86400 * (1 + d.below(3))}
		if d.below(3) > 0 {
			o.Main.Rule = by(fmt.Sprintf("FREQ=DAILY;INTERVAL=%d;COUNT=%d", 1+d.below(3), 1+d.below(15)))
		}
		for _, m := range d.dates(start) {
			to := []api.Moment{at("20000325"), at("20000402T010000", "East"), at("20000330T120000Z")}[d.below(3)]
			o.Over = append(o.Over, api.Item{Recur: []api.Moment{m}, Start: to})
		}
	})
}

// plain is the instances in a window, as the chapter has them, of all times that there are.
func plain(t *testing.T, o api.Object, from, to int) []string {
	times := map[int]api.Time{}
	start := o.Main.Start
	all := []api.Time{start.Time}
	if len(o.Main.Rule) > 0 {
		l, e := recur.Expand(start.Time, o.Main.Rule[0], at("19990101").Time, at("20200101").Time)
		if e != nil {
			t.Fatal(e)
		}
		all = l
	}
	for _, x := range all {
		times[when.Seconds(x)] = x
	}
	for _, m := range o.Main.RDates {
		times[when.Seconds(m.Time)] = m.Time
	}
	for _, m := range o.Main.EXDates {
		delete(times, when.Seconds(m.Time))
	}
	var l []string
	for n, x := range times {
		item, over := o.Main, false
		item.Start.Time = x
		for _, y := range o.Over {
			if when.Seconds(y.Recur[0].Time) == n {
				item, over = y, true
			}
		}
		m, e := query.Moment(o, item.Start)
		if e != nil {
			t.Fatal(e)
		}
		begin := when.Seconds(m)
		end := begin + query.Long(o, item)
		if begin < to && (end > from || begin == end && begin >= from) {
			l = append(l, fmt.Sprintf("%012d%012d", begin, n)+told(api.Inst{Start: m, End: when.At(end, m), Which: x, Over: over}))
		}
	}
	sort.Strings(l)
	for i := range l {
		l[i] = l[i][24:]
	}
	return l
}

func TestPlays(t *testing.T) {
	for seed := range 2000 {
		d := dice(seed)
		o := d.entry()
		for range 4 {
			from := when.Seconds(at("20000315").Time) + d.below(30*24)*3600
			to := from + d.below(20*24)*3600
			utc := func(n int) string {
				s, _ := when.Print(when.At(n, api.Time{UTC: true}))
				return s
			}
			has(t, o, utc(from), utc(to), plain(t, o, from, to)...)
		}
	}
}

func TestOneMoreEXDateTakesItsInstance(t *testing.T) {
	from, to := at("20000101T000000Z").Time, at("20010101T000000Z").Time
	for seed := range 300 {
		d := dice(seed)
		o := d.entry()
		all, e := query.Instances(o, from, to)
		if e != nil {
			t.Fatal(e)
		}
		for i, x := range all {
			p := o
			m := o.Main.Start
			m.Time = x.Which
			p.Main.EXDates = append(slices.Clone(o.Main.EXDates), m)
			slices.SortFunc(p.Main.EXDates, func(a, b api.Moment) int { return when.Seconds(a.Time) - when.Seconds(b.Time) })
			rest, e := query.Instances(p, from, to)
			if e != nil || !slices.Equal(rest, slices.Delete(slices.Clone(all), i, i+1)) {
				t.Fatalf("play %d: %v, %v; want %v without %v", seed, rest, e, all, x)
			}
		}
	}
}
