package recur

import (
	"slices"

	"calends/api"
	"calends/greg"
)

// clock tells whether a time of a day matches.
func (l *look) clock(t api.Time) bool {
	return named(l.Hour, t.Hour, l.start.Hour, l.Freq > api.Daily) &&
		named(l.Minute, t.Min, l.start.Min, l.Freq > api.Hourly) &&
		named(l.Second, t.Sec, l.start.Sec, l.Freq > api.Minutely)
}

// named tells whether a list has a number, or, if it is empty, whether any one counts, or it is the start's.
func named(list []int, n, start int, any bool) bool {
	if len(list) > 0 {
		return slices.Contains(list, n)
	}
	return any || n == start
}

// day tells whether a day, with its number, matches.
func (l *look) day(d api.Day, n int) bool {
	if !in(l.Month, d.Month) {
		return false
	}
	long := greg.Long(d.Year, d.Month)
	if !in(l.MonthDay, d.Date, d.Date-1-long) {
		return false
	}
	return l.week(n) && l.yearDay(d) && l.weekdays(d, n) && l.likeStart(d, n)
}

// in tells whether a list is empty, or has one of some numbers.
func in(list []int, numbers ...int) bool {
	return len(list) == 0 || slices.ContainsFunc(numbers, func(n int) bool { return slices.Contains(list, n) })
}

// week tells whether a day's week is one that the rule names.
func (l *look) week(n int) bool {
	if len(l.WeekNo) == 0 {
		return true
	}
	year, week := greg.Week(n, l.Wkst)
	// A year too far has one week, as far as counting from its end goes.
	weeks := max(1, greg.Weeks(year, l.Wkst))
	return in(l.WeekNo, week, week-1-weeks)
}

// yearDay tells whether a day is one of those of the year that the rule names.
func (l *look) yearDay(d api.Day) bool {
	if len(l.YearDay) == 0 {
		return true
	}
	n := greg.YearDay(d)
	return in(l.YearDay, n, n-1-yearLong(d.Year))
}

// weekdays tells whether a day's weekday, and how manieth it is, are such as the rule names.
func (l *look) weekdays(d api.Day, n int) bool {
	if len(l.Days) == 0 {
		return true
	}
	weekday := greg.Weekday(n)
	for _, nth := range l.Days {
		if nth.Day == weekday && (nth.N == 0 || l.manieth(d, nth.N)) {
			return true
		}
	}
	return false
}

// manieth tells whether a day is the n-th of its weekday, from the end on, if n is below 0.
func (l *look) manieth(d api.Day, n int) bool {
	date, long := d.Date, greg.Long(d.Year, d.Month)
	if l.Freq != api.Monthly && len(l.Month) == 0 {
		date, long = greg.YearDay(d), yearLong(d.Year)
	}
	if n < 0 {
		n, date = -n, long+1-date
	}
	return (date-1)/7+1 == n
}

// likeStart tells whether a day is as the start in what the rule does not name.
func (l *look) likeStart(d api.Day, n int) bool {
	switch {
	case len(l.YearDay)+len(l.MonthDay)+len(l.Days) > 0:
		return true
	case len(l.WeekNo) > 0:
		return greg.Weekday(n) == l.weekday
	}
	switch l.Freq {
	case api.Yearly:
		if len(l.Month) == 0 && d.Month != l.start.Month {
			return false
		}
		fallthrough
	case api.Monthly:
		return d.Date == l.start.Date
	case api.Weekly:
		return greg.Weekday(n) == l.weekday
	}
	return true
}

// yearLong is how many days a year has.
func yearLong(year int) int { return greg.YearDay(api.Day{Year: year, Month: 12, Date: 31}) }
