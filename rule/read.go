package rule

import (
	"errors"
	"strconv"
	"strings"

	"calends/api"
	"calends/ascii"
	"calends/flaw"
	"calends/when"
)

// maxDigits is how many digits a number has at the most.
const maxDigits = 4

// errPart is that a part can't be read.
var errPart = errors.New("no part of a rule")

// Parse reads a rule.
func Parse(s string) (api.Rule, error) {
	r, e := read(s)
	if errors.Is(e, errPart) {
		return api.Rule{}, api.ErrForm
	}
	r = Norm(r)
	if !Right(r) {
		return api.Rule{}, api.ErrRange
	}
	return r, nil
}

// read is the rule that a text tells, be it right or not.
func read(s string) (api.Rule, error) {
	r := api.Rule{Interval: 1}
	met := map[string]int{}
	// The whole text at once, so that no value is left out: letters change nothing, be they of a word or of a time.
	for part := range strings.SplitSeq(ascii.Great(s), ";") {
		word, value, _ := strings.Cut(part, "=")
		met[word]++
		if met[word] > 1 {
			return r, flaw.In(word, errPart)
		}
		if e := readPart(&r, word, value); e != nil {
			return r, flaw.In(word, e)
		}
	}
	if met["FREQ"] == 0 {
		return r, flaw.In("FREQ", errPart)
	}
	return r, nil
}

// readPart puts a part's value into a rule.
func readPart(r *api.Rule, word, value string) error {
	var e error
	switch word {
	case "FREQ":
		r.Freq, e = frequency(value)
	case "INTERVAL":
		r.Interval, e = number(value)
	case "COUNT":
		r.Count, e = number(value)
		if r.Count == 0 {
			r.Count = -1 // a count of 0 that is told is not right, other than none
		}
	case "UNTIL":
		var until api.Time
		if until, e = when.Parse(value); e != nil {
			return errPart
		}
		r.Until = []api.Time{until}
	case "BYMONTH":
		r.Month, e = list(value, number)
	case "BYWEEKNO":
		r.WeekNo, e = list(value, number)
	case "BYYEARDAY":
		r.YearDay, e = list(value, number)
	case "BYMONTHDAY":
		r.MonthDay, e = list(value, number)
	case "BYDAY":
		r.Days, e = list(value, nth)
	case "BYHOUR":
		r.Hour, e = list(value, number)
	case "BYMINUTE":
		r.Minute, e = list(value, number)
	case "BYSECOND":
		r.Second, e = list(value, number)
	case "BYSETPOS":
		r.SetPos, e = list(value, number)
	case "WKST":
		r.Wkst, e = weekday(value)
	default:
		e = errPart
	}
	return e
}

// list reads values with a comma between.
func list[T any](s string, one func(string) (T, error)) ([]T, error) {
	var l []T
	for part := range strings.SplitSeq(s, ",") {
		x, e := one(part)
		if e != nil {
			return nil, e
		}
		l = append(l, x)
	}
	return l, nil
}

// number reads a number.
func number(s string) (int, error) {
	digits := s
	if strings.HasPrefix(s, "+") || strings.HasPrefix(s, "-") {
		digits = s[1:]
	}
	if !ascii.Digits(digits) || len(digits) > maxDigits {
		return 0, errPart
	}
	return strconv.Atoi(s)
}

// nth reads a day, perhaps with a number.
func nth(s string) (api.Nth, error) {
	const word = len("MO")
	if len(s) < word {
		return api.Nth{}, errPart
	}
	day, e := weekday(s[len(s)-word:])
	if e != nil || len(s) == word {
		return api.Nth{Day: day}, e
	}
	n, e := number(s[:len(s)-word])
	if e != nil || n == 0 {
		return api.Nth{}, errPart
	}
	return api.Nth{N: n, Day: day}, nil
}

// weekday reads a day of the week in great letters.
func weekday(s string) (int, error) {
	for at, word := range weekdays {
		if word == s {
			return at, nil
		}
	}
	return 0, errPart
}

// frequency reads a frequency in great letters.
func frequency(s string) (int, error) {
	for at, word := range frequencies {
		if word == s {
			return at, nil
		}
	}
	return 0, errPart
}
