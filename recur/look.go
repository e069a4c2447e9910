package recur

import (
	"iter"
	"slices"

	"calends/api"
	"calends/flaw"
	"calends/greg"
	"calends/when"
)

// Seconds and numbers of what periods are made of.
const (
	minute   = 60
	hour     = 60 * minute
	day      = 24 * hour
	weekLong = 7
	yearLast = 9999
	months   = 12
	lastDay  = 3652059 // the number of the last day that there is
)

// look is a rule and its start; periods are counted in units, by the frequency, of which that of the start is kept.
type look struct {
	api.Rule
	start   api.Time
	second  int
	weekday int
	unit    int
}

// unitOf is the unit in which a second lies.
func (l *look) unitOf(second int) int {
	n := dayOf(second)
	switch l.Freq {
	case api.Yearly:
		return greg.Of(n).Year
	case api.Monthly:
		d := greg.Of(n)
		return d.Year*months + d.Month - 1
	case api.Weekly:
		// One more, since the first week may begin ahead of the first day.
		return (n-1-l.Wkst+weekLong)/weekLong - 1
	case api.Daily:
		return n
	case api.Hourly:
		return second / hour
	case api.Minutely:
		return second / minute
	}
	return second
}

// period is the number of the last period that does not begin behind a second; below 0 ahead of all.
func (l *look) period(second int) int {
	units := l.unitOf(second) - l.unit
	if units < 0 {
		return -1
	}
	return units / l.Interval
}

// lies tells whether a second lies in a period.
func (l *look) lies(second int) bool {
	units := l.unitOf(second) - l.unit
	return units >= 0 && units%l.Interval == 0
}

// begin is the second at which a period begins, and whether there is that one.
func (l *look) begin(period int) (int, bool) {
	unit := l.unit + period*l.Interval
	if l.Freq <= api.Daily {
		first, _ := l.span(unit)
		return (first - 1) * day, first <= lastDay
	}
	second := unit * l.long()
	return second, second < lastDay*day
}

// long is how many seconds a unit has that is less than a day.
func (l *look) long() int {
	switch l.Freq {
	case api.Hourly:
		return hour
	case api.Minutely:
		return minute
	}
	return 1
}

// span is the numbers of the first and the last day of a unit of a day or more.
func (l *look) span(unit int) (int, int) {
	switch l.Freq {
	case api.Yearly:
		if unit > yearLast {
			return lastDay + 1, lastDay
		}
		return greg.Number(api.Day{Year: unit, Month: 1, Date: 1}), greg.Number(api.Day{Year: unit, Month: months, Date: 31})
	case api.Monthly:
		d := api.Day{Year: unit / months, Month: unit%months + 1, Date: 1}
		if d.Year > yearLast {
			return lastDay + 1, lastDay
		}
		first := greg.Number(d)
		return first, first + greg.Long(d.Year, d.Month) - 1
	case api.Weekly:
		first := unit*weekLong + 1 + l.Wkst
		return first, first + weekLong - 1
	}
	return unit, unit
}

// days are the numbers of the days of a period that match, rising.
func (l *look) days(period int) []int {
	unit := l.unit + period*l.Interval
	if l.Freq > api.Daily {
		n := dayOf(unit * l.long())
		if l.day(greg.Of(n), n) {
			return []int{n}
		}
		return nil
	}
	var days []int
	first, last := l.span(unit)
	last = min(last, lastDay)
	for n := max(first, 1); n <= last; {
		d := greg.Of(n)
		behind := greg.Long(d.Year, d.Month) - d.Date
		if !in(l.Month, d.Month) {
			n += behind + 1 // the whole month can't match
			continue
		}
		for end := min(n+behind, last); n <= end; n++ {
			if l.day(d, n) {
				days = append(days, n)
			}
			d.Date++
		}
	}
	return days
}

// times goes over the seconds of a day, rising, at which a period's times that match are, until it is told to stop.
func (l *look) times(period int) iter.Seq[int] {
	hours, minutes, seconds := orStart(l.Hour, l.start.Hour), orStart(l.Minute, l.start.Min), orStart(l.Second, l.start.Sec)
	second := (l.unit + period*l.Interval) * l.long() % day
	switch l.Freq {
	case api.Secondly:
		seconds = only(l.Second, second%minute)
		fallthrough
	case api.Minutely:
		minutes = only(l.Minute, second%hour/minute)
		fallthrough
	case api.Hourly:
		hours = only(l.Hour, second/hour)
	}
	return func(yield func(int) bool) {
		for _, h := range hours {
			for _, m := range minutes {
				for _, s := range seconds {
					if !yield(h*hour + m*minute + s) {
						return
					}
				}
			}
		}
	}
}

// orStart is a list, or, if it is empty, the start's number.
func orStart(list []int, start int) []int {
	if len(list) > 0 {
		return list
	}
	return []int{start}
}

// only is a number, if a list has it, or is empty.
func only(list []int, n int) []int {
	if in(list, n) {
		return []int{n}
	}
	return nil
}

// candidates goes over those of a period, rising.
func (l *look) candidates(period int) iter.Seq[int] {
	return func(yield func(int) bool) {
		times := slices.Collect(l.times(period))
		if len(times) == 0 {
			return
		}
		days := l.days(period)
		for _, place := range l.places(len(days) * len(times)) {
			if !yield((days[place/len(times)]-1)*day + times[place%len(times)]) {
				return
			}
		}
	}
}

// places are those that count of so many, from 0 on, rising.
func (l *look) places(many int) []int {
	var places []int
	if len(l.SetPos) == 0 {
		for at := range many {
			places = append(places, at)
		}
		return places
	}
	for _, p := range l.SetPos {
		if p < 0 {
			p += many + 1
		}
		if p >= 1 && p <= many {
			places = append(places, p-1)
		}
	}
	slices.Sort(places)
	return slices.Compact(places)
}

// behind goes over the candidates behind the start of periods from one to another one, rising.
func (l *look) behind(first, last int) iter.Seq[int] {
	return func(yield func(int) bool) {
		for period := max(first, 0); period <= last; period++ {
			for second := range l.candidates(period) {
				if second > l.second && !yield(second) {
					return
				}
			}
		}
	}
}

// instances goes over those from a second on, up to another one, rising.
func (l *look) instances(from, end int) iter.Seq[int] {
	return func(yield func(int) bool) {
		if l.second >= from && l.second < end && !yield(l.second) {
			return
		}
		first, left := l.period(from), -1
		if l.Count > 0 {
			first, left = 0, l.Count-1 // all of them count, whether they are asked for or not
		}
		stop := l.until(end - 1)
		for second := range l.behind(first, l.period(stop)) {
			if second > stop || left == 0 {
				return
			}
			left--
			if second >= from && !yield(second) {
				return
			}
		}
	}
}

// until is a second, or that of Until, if it is ahead of it.
func (l *look) until(second int) int {
	if len(l.Until) > 0 {
		return min(second, when.Seconds(l.Until[0]))
	}
	return second
}

// last is the last instance that is not behind a second.
func (l *look) last(second int) (int, bool) {
	if second < l.second {
		return 0, false
	}
	last := l.second
	if l.Count > 0 {
		for at := range l.instances(l.second, second+1) {
			last = at
		}
		return last, true
	}
	stop := l.until(second)
	for period := l.period(stop); period >= 0 && last == l.second; period-- {
		for at := range l.behind(period, period) {
			if at <= stop {
				last = at
			}
		}
	}
	return last, true
}

// far is why there is too much to look at ahead of an end.
func (l *look) far(end int) error {
	begin, there := l.begin(api.MaxLook)
	if !there || begin >= end || l.until(begin) < begin {
		return nil
	}
	if l.Count == 0 || l.fewer() {
		return flaw.In("too many periods", api.ErrMany)
	}
	return nil
}

// fewer tells whether fewer instances than the rule's count lie in the periods that are looked at.
func (l *look) fewer() bool {
	left := l.Count - 1
	for range l.behind(0, api.MaxLook-1) {
		if left == 0 {
			break
		}
		left--
	}
	return left > 0
}

// dayOf is the number of the day on which a second lies.
func dayOf(second int) int { return second/day + 1 }

func weekdayOf(second int) int { return greg.Weekday(dayOf(second)) }
