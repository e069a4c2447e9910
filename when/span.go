package when

import (
	"strconv"
	"strings"

	"calends/api"
	"calends/ascii"
)

// maxDigits is how many digits a number of a duration has at the most.
const maxDigits = 6

// Span reads a duration: its seconds.
func Span(s string) (int, error) {
	back := strings.HasPrefix(s, "-")
	if back || strings.HasPrefix(s, "+") {
		s = s[1:]
	}
	n, e := span(s)
	switch {
	case e != nil:
		return 0, api.ErrForm
	case n > api.MaxSpan:
		return 0, api.ErrRange
	case back:
		return -n, nil
	}
	return n, nil
}

// PrintSpan is a duration's text.
func PrintSpan(n int) (string, error) {
	switch {
	case n > api.MaxSpan || n < -api.MaxSpan:
		return "", api.ErrArg
	case n < 0:
		return "-" + printed(-n), nil
	}
	return printed(n), nil
}

// Offset reads an offset: its seconds.
func Offset(s string) (int, error) {
	const short, long = len("+0000"), len("+000000")
	if len(s) != short && len(s) != long || s[0] != '+' && s[0] != '-' || !ascii.Digits(s[1:]) {
		return 0, api.ErrForm
	}
	var parts [3]int
	for at := 1; at < len(s); at += 2 {
		parts[at/2], _ = strconv.Atoi(s[at : at+2])
	}
	n := parts[0]*hour + parts[1]*minute + parts[2]
	switch {
	case !within(parts[0], 24) || !within(parts[1], 60) || !within(parts[2], 60):
		return 0, api.ErrForm
	case s[0] == '+':
		return n, nil
	case n == 0:
		return 0, api.ErrForm
	}
	return -n, nil
}

// PrintOffset is an offset's text.
func PrintOffset(n int) (string, error) {
	if n <= -day || n >= day {
		return "", api.ErrArg
	}
	s := "+"
	if n < 0 {
		s, n = "-", -n
	}
	s += padded(n/hour, 2) + padded(n%hour/minute, 2)
	if n%minute != 0 {
		s += padded(n%minute, 2)
	}
	return s, nil
}

// span is how long a duration's text without a sign is.
func span(s string) (int, error) {
	rest, ok := strings.CutPrefix(s, "P")
	if !ok {
		return 0, errText
	}
	if n, left, found := unit(rest, 'W'); found && left == "" {
		return n * week, nil
	}
	days, rest, hasDays := unit(rest, 'D')
	clock, hasClock := strings.CutPrefix(rest, "T")
	hours, clock, hasHours := unit(clock, 'H')
	minutes, clock, hasMinutes := unit(clock, 'M')
	seconds, clock, hasSeconds := unit(clock, 'S')
	if clock != "" || hasClock != (hasHours || hasMinutes || hasSeconds) || !hasDays && !hasClock {
		return 0, errText
	}
	return days*day + hours*hour + minutes*minute + seconds, nil
}

// unit takes digits and their sign off a text, if it begins with such.
func unit(s string, sign byte) (int, string, bool) {
	at := strings.IndexByte(s, sign)
	if at < 1 || at > maxDigits || !ascii.Digits(s[:at]) {
		return 0, s, false
	}
	n, _ := strconv.Atoi(s[:at])
	return n, s[at+1:], true
}

// printed is the text of a duration that is not below 0.
func printed(n int) string {
	if n == 0 {
		return "PT0S"
	}
	if n%week == 0 {
		return "P" + strconv.Itoa(n/week) + "W"
	}
	s := "P"
	tell := func(many int, sign string) {
		if many > 0 {
			s += strconv.Itoa(many) + sign
		}
	}
	tell(n/day, "D")
	if n%day > 0 {
		s += "T"
	}
	tell(n%day/hour, "H")
	tell(n%hour/minute, "M")
	tell(n%minute, "S")
	return s
}

// period is the times that a period's text tells.
func period(s string) (from, to api.Time, e error) {
	first, second, _ := strings.Cut(s, "/")
	from, e = Parse(first)
	if e != nil {
		return from, to, e
	}
	if strings.IndexByte(second, 'P') >= 0 {
		n, e := Span(second)
		if e != nil {
			return from, to, e
		}
		to = At(Seconds(from)+n, from)
	} else if to, e = Parse(second); e != nil {
		return from, to, e
	}
	if from.Bare || to.Bare || from.UTC != to.UTC || Seconds(to) <= Seconds(from) {
		return from, to, errText
	}
	return from, to, nil
}
