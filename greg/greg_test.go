package greg_test

import (
	"math"
	"testing"
	"time"

	"calends/api"
	"calends/greg"
)

func day(y, m, d int) api.Day { return api.Day{Year: y, Month: m, Date: d} }

// wrong are days that may not be.
func wrong() []api.Day {
	return []api.Day{{}, day(0, 1, 1), day(10000, 1, 1), day(-1, 1, 1), day(2000, 0, 1), day(2000, 13, 1), day(2000, 1, 0), day(2000, 1, 32), day(2000, 4, 31), day(2000, 2, 30), day(1900, 2, 29), day(2001, 2, 29), day(math.MaxInt, 1, 1), day(2000, math.MinInt, 1), day(2000, 1, math.MinInt)}
}

const last = 3652059

// P8.1

func TestRight(t *testing.T) {
	for _, d := range []api.Day{day(1, 1, 1), day(9999, 12, 31), day(2000, 2, 29), day(2004, 2, 29), day(1900, 2, 28), day(2021, 6, 30)} {
		if !greg.Right(d) {
			t.Errorf("%v is not right", d)
		}
	}
	for _, d := range wrong() {
		if greg.Right(d) || greg.Number(d) != 0 || greg.YearDay(d) != 0 {
			t.Errorf("%v is right", d)
		}
	}
}

func TestLong(t *testing.T) {
	long := []int{31, 28, 31, 30, 31, 30, 31, 31, 30, 31, 30, 31}
	for i, n := range long {
		if greg.Long(2001, i+1) != n || greg.Long(2100, i+1) != n {
			t.Errorf("month %d", i+1)
		}
	}
	if greg.Long(2000, 2) != 29 || greg.Long(2004, 2) != 29 || greg.Long(1, 1) != 31 || greg.Long(9999, 12) != 31 {
		t.Error("other years")
	}
	for _, d := range []api.Day{day(0, 1, 0), day(10000, 1, 0), day(2000, 0, 0), day(2000, 13, 0), day(-4, 2, 0)} {
		if greg.Long(d.Year, d.Month) != 0 {
			t.Errorf("Long of %v", d)
		}
	}
}

func TestNumberAndOfAllDays(t *testing.T) {
	n := 0
	for at := time.Date(1, 1, 1, 0, 0, 0, 0, time.UTC); at.Year() < 10000; at = at.AddDate(0, 0, 1) {
		n++
		d := day(at.Year(), int(at.Month()), at.Day())
		if !greg.Right(d) || greg.Number(d) != n || greg.Of(n) != d {
			t.Fatalf("%v: Number %d, Of(%d) %v", d, greg.Number(d), n, greg.Of(n))
		}
		if greg.YearDay(d) != at.YearDay() || greg.Weekday(n) != (int(at.Weekday())+6)%7 {
			t.Fatalf("%v: YearDay %d, Weekday %d", d, greg.YearDay(d), greg.Weekday(n))
		}
		year, week := at.ISOWeek()
		if y, w := greg.Week(n, 0); y != year || w != week {
			t.Fatalf("%v: Week %d, %d; want %d, %d", d, y, w, year, week)
		}
	}
	if n != last {
		t.Fatalf("%d days", n)
	}
}

func TestOfRefuses(t *testing.T) {
	for _, n := range []int{0, -1, last + 1, math.MinInt, math.MaxInt} {
		if d := greg.Of(n); d != (api.Day{}) {
			t.Errorf("Of(%d): %v", n, d)
		}
	}
}

// P8.2

func TestWeekdayOfAnyNumber(t *testing.T) {
	for n, want := range map[int]int{1: 0, 7: 6, 8: 0, 0: 6, -1: 5, -6: 0, -7: 6, 719163: 3, math.MaxInt: 6, math.MinInt: 5} {
		if got := greg.Weekday(n); got != want {
			t.Errorf("Weekday(%d): %d; want %d", n, got, want)
		}
	}
}

// P8.3

func TestPlus(t *testing.T) {
	for _, c := range []struct {
		d    api.Day
		n    int
		want api.Day
	}{
		{day(2000, 1, 31), 1, api.Day{}}, {day(2000, 1, 31), 2, day(2000, 3, 31)}, {day(2000, 1, 29), 1, day(2000, 2, 29)}, {day(2001, 1, 29), 1, api.Day{}},
		{day(2000, 1, 1), 0, day(2000, 1, 1)}, {day(2000, 1, 1), -1, day(1999, 12, 1)}, {day(2000, 12, 5), 1, day(2001, 1, 5)}, {day(2000, 6, 5), -18, day(1998, 12, 5)},
		{day(1, 1, 1), -1, api.Day{}}, {day(1, 2, 1), -1, day(1, 1, 1)}, {day(9999, 12, 1), 1, api.Day{}}, {day(9999, 11, 1), 1, day(9999, 12, 1)},
		{day(1, 1, 1), 119987, day(9999, 12, 1)}, {day(9999, 12, 31), -119987, day(1, 1, 31)}, {day(1, 1, 1), 119988, api.Day{}},
		{day(5, 1, 1), math.MaxInt, api.Day{}}, {day(5, 1, 1), math.MinInt, api.Day{}}, {day(5, 1, 1), -60, api.Day{}}, {day(5, 1, 1), -72, api.Day{}}, {day(2001, 2, 29), 12, api.Day{}},
	} {
		if got := greg.Plus(c.d, c.n); got != c.want {
			t.Errorf("Plus(%v, %d): %v; want %v", c.d, c.n, got, c.want)
		}
	}
}

// P8.4 and P8.7

// yearOf is a number's year, counted on at both ends.
func yearOf(n int) int {
	return time.Date(1, 1, n, 0, 0, 0, 0, time.UTC).Year()
}

func TestWeeksOfAllKinds(t *testing.T) {
	for first := range 7 {
		for _, from := range []int{1, 1000, 700000, last - 800} {
			for n := from; n < from+800 && n <= last; n++ {
				begin := n
				for greg.Weekday(begin) != first {
					begin--
				}
				// The year that has most of the days, and how many weeks of it end with this one.
				count := map[int]int{}
				for i := range 7 {
					count[yearOf(begin+i)]++
				}
				year := yearOf(begin)
				if count[year] < 4 {
					year++
				}
				week := 0
				for b := begin; yearOf(b+3) == year; b -= 7 {
					week++
				}
				if y, w := greg.Week(n, first); y != year || w != week {
					t.Fatalf("Week(%d, %d): %d, %d; want %d, %d", n, first, y, w, year, week)
				}
				if next := yearOf(begin + 10); year > 0 && year < 10000 && (next != year) != (greg.Weeks(year, first) == week) {
					t.Fatalf("Weeks(%d, %d): %d, beside week %d", year, first, greg.Weeks(year, first), week)
				}
			}
		}
	}
}

func TestWeekExamples(t *testing.T) {
	for _, c := range []struct{ n, first, year, week int }{
		{greg.Number(day(2021, 1, 3)), 0, 2020, 53}, {greg.Number(day(2021, 1, 3)), 6, 2021, 1},
		{1, 0, 1, 1}, {1, 6, 1, 1}, {1, 1, 0, 52}, {last, 0, 9999, 52}, {last, 5, 9999, 52}, {last, 4, 10000, 1}, {last, 3, 10000, 1},
		{0, 0, 0, 0}, {-5, 0, 0, 0}, {last + 1, 0, 0, 0}, {5, 7, 0, 0}, {5, -1, 0, 0},
	} {
		if y, w := greg.Week(c.n, c.first); y != c.year || w != c.week {
			t.Errorf("Week(%d, %d): %d, %d; want %d, %d", c.n, c.first, y, w, c.year, c.week)
		}
	}
}

func TestWeeks(t *testing.T) {
	for _, c := range []struct{ year, first, want int }{
		{2020, 0, 53}, {2021, 0, 52}, {2015, 0, 53}, {0, 0, 0}, {10000, 0, 0}, {-1, 0, 0}, {2020, -1, 0}, {2020, 7, 0},
	} {
		if got := greg.Weeks(c.year, c.first); got != c.want {
			t.Errorf("Weeks(%d, %d): %d; want %d", c.year, c.first, got, c.want)
		}
	}
	for first := range 7 {
		all := 0
		for y := 1; y < 10000; y++ {
			n := greg.Weeks(y, first)
			if n != 52 && n != 53 {
				t.Fatalf("Weeks(%d, %d): %d", y, first, n)
			}
			all += n
		}
		if all < (last-6)/7 || all > (last+6)/7 {
			t.Fatalf("%d weeks in all", all)
		}
	}
}

// P8.5

func TestBetween(t *testing.T) {
	for _, c := range []struct {
		days []api.Day
		want int
		ok   bool
	}{
		{nil, 0, false}, {[]api.Day{day(2000, 1, 1)}, 0, false},
		{[]api.Day{day(2000, 1, 1), day(2000, 1, 1)}, 0, true},
		{[]api.Day{day(2000, 1, 1), day(2000, 3, 1)}, 60, true},
		{[]api.Day{day(2000, 3, 1), day(2000, 1, 1)}, 60, true},
		{[]api.Day{day(2000, 1, 5), day(2000, 1, 1), day(2000, 1, 10), day(2000, 1, 3)}, 9, true},
		{[]api.Day{day(1, 1, 1), day(9999, 12, 31)}, last - 1, true},
		{[]api.Day{day(2000, 1, 1), day(2000, 2, 30), day(2000, 3, 1)}, 0, false},
		{[]api.Day{day(2000, 1, 1), {}}, 0, false},
	} {
		if n, ok := greg.Between(c.days...); n != c.want || ok != c.ok {
			t.Errorf("Between(%v): %d, %v; want %d, %v", c.days, n, ok, c.want, c.ok)
		}
	}
}
