package recur_test

import (
	"slices"
	"testing"
	"time"

	"calends/api"
	"calends/recur"
	"calends/rule"
	"calends/when"
)

// dice are numbers that are the same in each run.
type dice uint64

func (d *dice) below(n int) int {
	*d = *d*6364136223846793005 + 1442695040888963407
	return int(uint64(*d)>>33) % n
}

// some is a list of up to most numbers, and in most plays none.
func (d *dice) some(most int, from ...int) []int {
	if d.below(3) > 0 {
		return nil
	}
	var l []int
	for range 1 + d.below(most) {
		l = append(l, from[d.below(len(from))])
	}
	return l
}

// play is a start, and a rule that fits it.
func (d *dice) play() (api.Time, api.Rule) {
	for {
		start := when.At(when.Seconds(at("20190101"))+d.below(800*86400), api.Time{UTC: d.below(2) == 0})
		r := api.Rule{Freq: d.below(7), Interval: 1 + d.below(3), Wkst: d.below(7), Month: d.some(3, start.Month, 1, 2, 12), MonthDay: d.some(4, start.Date, 1, 13, 31, -1, -31, 28), Hour: d.some(3, start.Hour, 0, 23), Minute: d.some(2, start.Min, 0, 59), Second: d.some(2, start.Sec, 30)}
		if d.below(3) == 0 {
			start.Hour, start.Min, start.Sec, start.UTC, start.Bare = 0, 0, 0, false, true
			r.Hour, r.Minute, r.Second, r.Freq = nil, nil, nil, r.Freq%4
		}
		if r.Freq == api.Yearly || r.Freq > api.Daily {
			r.YearDay = d.some(4, 1, 366, -1, -366, 60, 365)
		}
		if r.Freq == api.Yearly {
			r.WeekNo = d.some(4, 1, 52, 53, -1, -53, 9)
		}
		for range d.below(4) {
			n := 0
			if len(r.WeekNo) == 0 && r.Freq <= api.Monthly {
				n = []int{0, 1, -1, 2, -5, 5}[d.below(6)]
			}
			r.Days = append(r.Days, api.Nth{N: n, Day: d.below(7)})
		}
		r.SetPos = d.some(3, 1, 2, -1, -2, 5, -10)
		switch d.below(4) {
		case 0:
			r.Count = 1 + d.below(30)
		case 1:
			r.Until = []api.Time{start}
			r.Until[0].Year += d.below(3) - 1
		}
		if r = rule.Norm(r); recur.Fits(start, r) {
			return start, r
		}
	}
}

func clock(t api.Time) time.Time {
	return time.Date(t.Year, time.Month(t.Month), t.Date, t.Hour, t.Min, t.Sec, 0, time.UTC)
}

// plainDay tells of a day what the chapter says, in the plainest way.
func plainDay(start time.Time, r api.Rule, x time.Time) bool {
	has := func(l []int, n, back int) bool {
		return len(l) == 0 || slices.Contains(l, n) || slices.Contains(l, back)
	}
	yearLong := time.Date(x.Year(), 12, 31, 0, 0, 0, 0, time.UTC).YearDay()
	monthLong := time.Date(x.Year(), x.Month()+1, 0, 0, 0, 0, 0, time.UTC).Day()
	weekday := (int(x.Weekday()) + 6) % 7
	middle := func(x time.Time) time.Time {
		return x.AddDate(0, 0, 3-((int(x.Weekday())+6-r.Wkst)%7+7)%7)
	}
	week := (middle(x).YearDay()-1)/7 + 1
	lastWeek := (middle(time.Date(middle(x).Year(), 12, 28, 0, 0, 0, 0, time.UTC)).YearDay()-1)/7 + 1
	if !has(r.Month, int(x.Month()), 0) || !has(r.WeekNo, week, week-1-lastWeek) || !has(r.YearDay, x.YearDay(), x.YearDay()-1-yearLong) || !has(r.MonthDay, x.Day(), x.Day()-1-monthLong) {
		return false
	}
	at, long := x.YearDay(), yearLong
	if r.Freq == api.Monthly || len(r.Month) > 0 {
		at, long = x.Day(), monthLong
	}
	found := len(r.Days) == 0
	for _, n := range r.Days {
		found = found || n.Day == weekday && (n.N == 0 || n.N == (at+6)/7 || n.N == -(long-at+7)/7)
	}
	if len(r.YearDay)+len(r.MonthDay)+len(r.Days) > 0 {
		return found
	}
	if len(r.WeekNo) > 0 || r.Freq == api.Weekly {
		return x.Weekday() == start.Weekday()
	}
	if r.Freq == api.Yearly && len(r.Month) == 0 && x.Month() != start.Month() {
		return false
	}
	return r.Freq > api.Monthly || x.Day() == start.Day()
}

// plainPeriod is how many units behind some fixed one a time lies.
func plainPeriod(r api.Rule, x time.Time) int {
	switch r.Freq {
	case api.Yearly:
		return x.Year()
	case api.Monthly:
		return x.Year()*12 + int(x.Month())
	case api.Weekly:
		// 2000-01-03 is a Monday.
		return int(x.Sub(time.Date(2000, 1, 3+r.Wkst, 0, 0, 0, 0, time.UTC)) / (7 * 24 * time.Hour))
	case api.Daily:
		return int(x.Unix() / 86400)
	case api.Hourly:
		return int(x.Unix() / 3600)
	case api.Minutely:
		return int(x.Unix() / 60)
	}
	return int(x.Unix())
}

// plainTimes are the times of a day that match.
func plainTimes(start time.Time, r api.Rule, day time.Time) []time.Time {
	fits := func(l []int, n, start, freq int) bool {
		return slices.Contains(l, n) || len(l) == 0 && (r.Freq > freq || n == start)
	}
	var l []time.Time
	for h := range 24 {
		for m := range 60 {
			for s := range 60 {
				if !fits(r.Hour, h, start.Hour(), api.Daily) || !fits(r.Minute, m, start.Minute(), api.Hourly) {
					break
				}
				if fits(r.Second, s, start.Second(), api.Minutely) {
					l = append(l, day.Add(time.Duration(h*3600+m*60+s)*time.Second))
				}
			}
		}
	}
	return l
}

// plainAll are all instances up to some days behind the start.
func plainAll(start time.Time, r api.Rule, days int) []time.Time {
	first := time.Date(start.Year(), 1, -10, 0, 0, 0, 0, time.UTC)
	if r.Freq > api.Daily {
		first = start.Truncate(24 * time.Hour)
	}
	groups := map[int][]time.Time{}
	zero := plainPeriod(r, start)
	for day := first; day.Before(start.AddDate(0, 0, days)); day = day.AddDate(0, 0, 1) {
		if !plainDay(start, r, day) {
			continue
		}
		for _, x := range plainTimes(start, r, day) {
			if p := plainPeriod(r, x) - zero; p >= 0 && p%r.Interval == 0 {
				groups[p] = append(groups[p], x)
			}
		}
	}
	l := []time.Time{start}
	for _, g := range groups {
		for i, x := range g {
			if (len(r.SetPos) == 0 || slices.Contains(r.SetPos, i+1) || slices.Contains(r.SetPos, i-len(g))) && x.After(start) {
				l = append(l, x)
			}
		}
	}
	slices.SortFunc(l, time.Time.Compare)
	if r.Count > 0 && len(l) > r.Count {
		l = l[:r.Count]
	}
	return slices.DeleteFunc(l, func(x time.Time) bool {
		return len(r.Until) > 0 && x.After(clock(r.Until[0])) && x.After(start)
	})
}

// P11.2 to P11.6: what is told of rules of all kinds is what a plain way tells.
func TestPlays(t *testing.T) {
	for seed := range 2500 {
		d := dice(seed)
		start, r := d.play()
		// Days whose periods are all whole, however they lie.
		days, look := 1500, 1100
		if r.Freq > api.Daily {
			days, look = 3, 2
		}
		if r.Freq == api.Secondly {
			days, look = 1, 0
		}
		all := plainAll(clock(start), r, days)
		begin := when.Seconds(start)
		for range 5 {
			from := begin - 86400 + d.below((look+1)*86400)
			to := from + d.below([]int{30000, 86400 * 30, 86400 * 300}[d.below(3)])
			if r.Freq > api.Daily {
				to = min(to, begin+look*86400)
			}
			to = min(max(to, from), begin+max(look*86400, 39000))
			if r.Freq == api.Secondly {
				to = min(to, begin+39000)
			}
			var want []api.Time
			for _, x := range all {
				if n := begin + int(x.Sub(clock(start))/time.Second); n >= from && n < to {
					want = append(want, when.At(n, start))
				}
			}
			got, e := recur.Expand(start, r, when.At(from, api.Time{}), when.At(to, api.Time{}))
			if len(want) > api.MaxInstances {
				refused(t, e, api.ErrInstance)
				continue
			}
			if e != nil || !slices.Equal(got, want) {
				s, _ := rule.Print(r)
				t.Fatalf("play %d, %v, %s, from %v: %v, %v; want %v", seed, start, s, when.At(from, start), got, e, want)
			}
			checkOne(t, start, r, got, from, to)
		}
	}
}

// checkOne holds what Last and Is tell against what Expand does.
func checkOne(t *testing.T, start api.Time, r api.Rule, all []api.Time, from, to int) {
	t.Helper()
	for _, x := range all {
		if is, e := recur.Is(start, r, x); e != nil || !is {
			t.Fatalf("%v, %+v: %v is no instance, %v", start, r, x, e)
		}
		if x != start && !recur.Matches(start, r, x) {
			t.Fatalf("%v, %+v: %v does not match", start, r, x)
		}
	}
	if to <= from {
		return
	}
	last, ok, e := recur.Last(start, r, when.At(to-1, api.Time{}))
	if n := len(all); e != nil || n > 0 && (!ok || last != all[n-1]) || n == 0 && ok && when.Seconds(last) >= from {
		t.Fatalf("%v, %+v: Last %v, %v, %v; want that of %v", start, r, last, ok, e, all)
	}
}
