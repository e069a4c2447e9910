// Package window knows windows of time in Greenwich, and how far times go.
package window

import (
	"cmp"

	"calends/api"
	"calends/when"
)

// Day is how many seconds a day has.
const Day = 86400

// LastSecond is that of the last time that there is.
const LastSecond = 3652059*Day - 1

// Right tells whether two times are a window: both right, UTC, and the second one not ahead of the first.
func Right(from, to api.Time) bool {
	switch {
	case !when.Right(from) || !from.UTC:
		fallthrough
	case !when.Right(to) || !to.UTC:
		fallthrough
	case when.Seconds(to) < when.Seconds(from):
		return false
	}
	return true
}

// UTC is the time in Greenwich with some seconds; the zero one, if there is none.
func UTC(second int) api.Time { return when.At(second, api.Time{UTC: true}) }

// Near is the time with some seconds, or the first or the last one that there is, of the form of another one: of a bare one the beginning of that day.
func Near(second int, like api.Time) api.Time {
	second = min(max(second, 0), LastSecond)
	if like.Bare {
		second -= second % Day
	}
	return when.At(second, like)
}

// BySeconds orders times by their seconds.
func BySeconds(a, b api.Time) int { return cmp.Compare(when.Seconds(a), when.Seconds(b)) }
