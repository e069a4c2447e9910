package when_test

import (
	"errors"
	"math"
	"testing"
	"time"

	"calends/api"
	"calends/when"
)

const day = 86400

// lastSecond is that of the last time that there is.
const lastSecond = 3652059*day - 1

func bare(y, m, d int) api.Time {
	return api.Time{Day: api.Day{Year: y, Month: m, Date: d}, Bare: true}
}

func clock(y, m, d, h, min, s int) api.Time {
	return api.Time{Day: api.Day{Year: y, Month: m, Date: d}, Hour: h, Min: min, Sec: s}
}

func utc(t api.Time) api.Time {
	t.UTC = true
	return t
}

func refused(t *testing.T, what string, e error, want api.Errno) {
	t.Helper()
	if !errors.Is(e, want) || api.Place(e) != 0 {
		t.Errorf("%s: %v; want %v", what, e, want)
	}
}

// P9.1

func TestTimes(t *testing.T) {
	for s, want := range map[string]api.Time{
		"19980118T230000Z": utc(clock(1998, 1, 18, 23, 0, 0)),
		"00010101":         bare(1, 1, 1),
		"99991231":         bare(9999, 12, 31),
		"99991231T235959":  clock(9999, 12, 31, 23, 59, 59),
		"20000229T000000":  clock(2000, 2, 29, 0, 0, 0),
	} {
		if got, e := when.Parse(s); e != nil || got != want || !when.Right(want) {
			t.Errorf("Parse(%q): %v, %v", s, got, e)
		}
		if got, e := when.Print(want); e != nil || got != s {
			t.Errorf("Print(%v): %q, %v", want, got, e)
		}
	}
}

func TestWrongTimes(t *testing.T) {
	b := bare(2000, 1, 1)
	hour, min, sec, zulu := b, b, b, b
	hour.Hour, min.Min, sec.Sec, zulu.UTC = 1, 1, 1, true
	for _, x := range []api.Time{{}, hour, min, sec, zulu, bare(2001, 2, 29), bare(0, 1, 1), clock(2000, 1, 1, 24, 0, 0), clock(2000, 1, 1, 0, 60, 0), clock(2000, 1, 1, 0, 0, 60), clock(2000, 1, 1, -1, 0, 0), clock(2000, 1, 1, 0, -1, 0), clock(2000, 1, 1, 0, 0, -1)} {
		s, e := when.Print(x)
		refused(t, "Print", e, api.ErrArg)
		if s != "" || when.Right(x) || when.Seconds(x) != -1 {
			t.Errorf("%v is right", x)
		}
	}
}

func TestParseRefuses(t *testing.T) {
	for _, s := range []string{"", "2000010", "200001011", "20000101T", "20000101T00000", "20000101T000000z", "20000101t000000", "20000101 000000", "20000101T000000Z ", "20000101T0000000", "20000101Z", "00000101", "20001301", "20000132", "20010229", "20000101T240000", "20000101T006000", "20000101T000060", "+2000101", "2000010a", "2000-1-1", "20000101T+10000", "20000101T00000é"} {
		x, e := when.Parse(s)
		refused(t, s, e, api.ErrForm)
		if x != (api.Time{}) {
			t.Errorf("Parse(%q): %v beside an error", s, x)
		}
	}
}

// P9.2

func TestSecondsAndAt(t *testing.T) {
	start := time.Date(1, 1, 1, 0, 0, 0, 0, time.UTC).Unix()
	for n := 0; n <= lastSecond; n += 7654321 {
		x := time.Unix(start+int64(n), 0).UTC()
		want := clock(x.Year(), int(x.Month()), x.Day(), x.Hour(), x.Minute(), x.Second())
		if got := when.At(n, api.Time{}); got != want || when.Seconds(got) != n {
			t.Fatalf("At(%d): %v; want %v", n, got, want)
		}
		if got := when.At(n, utc(api.Time{})); got != utc(want) || when.Seconds(got) != n {
			t.Fatalf("At(%d): %v; want %v", n, got, want)
		}
		b := n - n%day
		if got := when.At(b, bare(2000, 1, 1)); got.Day != want.Day || !got.Bare || !when.Right(got) || when.Seconds(got) != b {
			t.Fatalf("At(%d): %v", b, got)
		}
	}
	if when.At(lastSecond, api.Time{}) != clock(9999, 12, 31, 23, 59, 59) {
		t.Error("the last time is not there")
	}
	zero := api.Time{}
	both := api.Time{Bare: true, UTC: true}
	for _, got := range []api.Time{when.At(-1, zero), when.At(lastSecond+1, zero), when.At(math.MinInt, zero), when.At(math.MaxInt, zero), when.At(1, bare(1, 1, 1)), when.At(day+3600, bare(1, 1, 1)), when.At(0, both)} {
		if got != zero {
			t.Errorf("At: %v", got)
		}
	}
	if when.Seconds(bare(1, 1, 1)) != 0 || when.Seconds(clock(1, 1, 2, 1, 2, 3)) != day+3723 {
		t.Error("Seconds")
	}
}

// P9.3

func TestSpan(t *testing.T) {
	for s, want := range map[string]int{
		"P1DT2H": 93600, "P2W": 1209600, "PT0S": 0, "P0D": 0, "-P0W": 0, "+PT5M": 300, "-PT15M": -900, "P1DT2H3M4S": 93784, "PT1H5S": 3605, "PT000001S": 1, "PT999999S": 999999,
		"P11574DT1H46M40S": api.MaxSpan, "-P11574DT1H46M40S": -api.MaxSpan, "P1D": day,
	} {
		if n, e := when.Span(s); e != nil || n != want {
			t.Errorf("Span(%q): %d, %v; want %d", s, n, e, want)
		}
	}
	for _, s := range []string{"", "P", "PT", "1D", "P1", "P1DT", "PT1D", "P1H", "P1M", "P1W1D", "P1WT1H", "P1DT1W", "PT1M1H", "PT1S1M", "PT1H1H", "P0000001D", "PT1234567S", "p1d", "P1d", "--P1D", "+-P1D", "P-1D", "P+1D", "P1D ", " P1D", "PT1.5S", "P1Y", "PD", "PTH", "PT5", "P1D2H"} {
		n, e := when.Span(s)
		refused(t, s, e, api.ErrForm)
		if n != 0 {
			t.Errorf("Span(%q): %d", s, n)
		}
	}
	for _, s := range []string{"P11574DT1H46M41S", "-P11574DT1H46M41S", "P999999W", "P999999DT999999H999999M999999S"} {
		n, e := when.Span(s)
		refused(t, s, e, api.ErrRange)
		if n != 0 {
			t.Errorf("Span(%q): %d", s, n)
		}
	}
}

func TestPrintSpan(t *testing.T) {
	for n, want := range map[int]string{0: "PT0S", 93600: "P1DT2H", 1209600: "P2W", -604800: "-P1W", 604801: "P7DT1S", 86400: "P1D", -900: "-PT15M", 3661: "PT1H1M1S", 3601: "PT1H1S", api.MaxSpan: "P11574DT1H46M40S"} {
		if s, e := when.PrintSpan(n); e != nil || s != want {
			t.Errorf("PrintSpan(%d): %q, %v; want %q", n, s, e, want)
		}
	}
	for _, n := range []int{api.MaxSpan + 1, -api.MaxSpan - 1, math.MaxInt, math.MinInt} {
		s, e := when.PrintSpan(n)
		refused(t, s, e, api.ErrArg)
	}
	for n := -api.MaxSpan; n <= api.MaxSpan; n += 98765 {
		s, e := when.PrintSpan(n)
		if back, e2 := when.Span(s); e != nil || e2 != nil || back != n {
			t.Fatalf("%d: %q, %v, %d, %v", n, s, e, back, e2)
		}
	}
}

// P9.4

func TestOffset(t *testing.T) {
	for s, want := range map[string]int{"+0000": 0, "+000000": 0, "-0500": -18000, "+0130": 5400, "+235959": 86399, "-235959": -86399, "-000001": -1, "+053000": 19800} {
		if n, e := when.Offset(s); e != nil || n != want {
			t.Errorf("Offset(%q): %d, %v", s, n, e)
		}
	}
	for _, s := range []string{"", "0000", "+", "+00", "+000", "+00000", "+0000000", "-0000", "-000000", "+2400", "+0060", "+000060", "+00:00", "+00 0", "++000", "Z", "+0a00"} {
		n, e := when.Offset(s)
		refused(t, s, e, api.ErrForm)
		if n != 0 {
			t.Errorf("Offset(%q): %d", s, n)
		}
	}
	for n := -86399; n < 86400; n++ {
		s, e := when.PrintOffset(n)
		if back, e2 := when.Offset(s); e != nil || e2 != nil || back != n || len(s) != 5 && n%60 == 0 {
			t.Fatalf("%d: %q, %v, %d, %v", n, s, e, back, e2)
		}
	}
	for _, n := range []int{86400, -86400, math.MaxInt, math.MinInt} {
		s, e := when.PrintOffset(n)
		refused(t, s, e, api.ErrArg)
	}
	if s, _ := when.PrintOffset(0); s != "+0000" {
		t.Error(s)
	}
}

// P9.5

func TestPeriod(t *testing.T) {
	six, seven := utc(clock(1997, 1, 1, 18, 0, 0)), utc(clock(1997, 1, 1, 19, 0, 0))
	for _, s := range []string{"19970101T180000Z/PT1H", "19970101T180000Z/+PT1H", "19970101T180000Z/19970101T190000Z"} {
		if a, b, e := when.Period(s); e != nil || a != six || b != seven {
			t.Errorf("Period(%q): %v, %v, %v", s, a, b, e)
		}
	}
	if a, b, e := when.Period("19970101T180000/P1W"); e != nil || a != clock(1997, 1, 1, 18, 0, 0) || b != clock(1997, 1, 8, 18, 0, 0) {
		t.Errorf("%v, %v, %v", a, b, e)
	}
	for _, s := range []string{"", "/", "19970101T180000Z", "19970101T180000Z/", "/PT1H", "PT1H/19970101T180000Z", "19970101T180000Z/PT0S", "19970101T180000Z/-PT1H", "19970101T180000Z/19970101T180000Z", "19970101T180000Z/19970101T170000Z", "19970101T180000Z/19970101T190000", "19970101T180000/19970101T190000Z", "19970101/19970102", "19970101/P1D", "19970101/19970102T000000", "19970101T000000/19970102", "19970101T180000Z/PT1H/PT1H", "99991231T235959Z/PT1S", "19970101T180000Z/P11574DT1H46M41S", "19970101T180000Z/P1", "19970101T180000Z/PT1H "} {
		a, b, e := when.Period(s)
		refused(t, s, e, api.ErrForm)
		if a != (api.Time{}) || b != (api.Time{}) {
			t.Errorf("Period(%q): %v, %v", s, a, b)
		}
	}
}

func TestFirst(t *testing.T) {
	a, b, c := bare(2000, 1, 1), clock(2000, 1, 1, 0, 0, 0), clock(1999, 12, 31, 23, 59, 59)
	for _, x := range []struct {
		l    []api.Time
		want api.Time
		ok   bool
	}{{nil, api.Time{}, false}, {[]api.Time{{}, bare(2001, 2, 29)}, api.Time{}, false}, {[]api.Time{a, b}, a, true}, {[]api.Time{b, a, utc(b)}, b, true}, {[]api.Time{{}, utc(b), a, c}, c, true}} {
		if got, ok := when.First(x.l...); got != x.want || ok != x.ok {
			t.Errorf("First(%v): %v, %v", x.l, got, ok)
		}
	}
}

// P9.6 and P9.7

func TestBackAndRising(t *testing.T) {
	old := ""
	for n := 0; n <= lastSecond; n += 12345678 {
		for _, like := range []api.Time{{}, {UTC: true}} {
			x := when.At(n, like)
			s, e := when.Print(x)
			if back, e2 := when.Parse(s); e != nil || e2 != nil || back != x {
				t.Fatalf("%v: %q, %v, %v, %v", x, s, e, back, e2)
			}
			if s[:15] < old {
				t.Fatalf("%q is behind %q", old, s)
			}
			old = s[:15]
		}
	}
}
