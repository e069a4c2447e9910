package fields

import (
	"slices"
	"strconv"
	"strings"

	"calends/api"
	"calends/card"
	"calends/entry"
	"calends/event"
	"calends/line"
	"calends/vcard"
)

// maxOften is how often something stands at the most that a field puts there.
const maxOften = 100

// Build puts fields together.
func Build(l ...api.Field) (string, bool) {
	l = byKey(l)
	values := map[string]int{}
	for at, f := range l {
		values[f.Key] = at + 1
	}
	value := func(key string) string {
		if at := values[key]; at > 0 {
			return l[at-1].Value
		}
		return ""
	}
	var s string
	var e error
	switch value(kindKey) {
	case entry.Event, entry.Todo:
		o, ok := beginObject(value, l)
		if !ok {
			return "", false
		}
		for _, f := range l {
			o = tried(o, f, putObject, event.Right)
		}
		s, e = event.Print(o)
	case vcard.CardIn:
		c := api.Card{UID: value(uidKey), Name: value(nameKey)}
		if !card.Right(c) {
			return "", false
		}
		for _, f := range l {
			c = tried(c, f, putCard, card.Right)
		}
		s, e = card.Print(c)
	default:
		return "", false
	}
	return s, e == nil
}

// tried is a thing with a field put to it, or, if it is not right then, as it was.
func tried[T any](was T, f api.Field, put func(*T, api.Field) bool, right func(T) bool) T {
	now := was
	if put(&now, f) && right(now) {
		return now
	}
	return was
}

// often is how often a value says that something stands; 0, if it does not say that.
func often(value string) int {
	n, e := strconv.Atoi(value)
	if e != nil || n < 1 || n > maxOften || strconv.Itoa(n) != value {
		return 0
	}
	return n
}

// extraProps are the properties that a field tells of which the key goes on so, behind its beginning.
func extraProps(key, value string) []api.Prop {
	if name, ok := strings.CutPrefix(key, registers); ok {
		p, ok := told(value)
		if !ok || p.Name != name || !Register(name) {
			return nil
		}
		return []api.Prop{p}
	}
	if s, ok := strings.CutPrefix(key, others); ok {
		if p, ok := told(s); ok {
			return slices.Repeat([]api.Prop{p}, often(value))
		}
	}
	return nil
}

// told is the property that is told by just this row.
func told(s string) (api.Prop, bool) {
	p, e := line.Parse(s)
	return p, e == nil && row(p) == s
}

// withExtra are other properties with some more, in order.
func withExtra(l, more []api.Prop) []api.Prop { return event.Sorted(slices.Concat(l, more)) }

// putExtra puts what a field tells to other properties, if its key, behind its beginning, is one of theirs.
func putExtra(l *[]api.Prop, key, value string) bool {
	more := extraProps(key, value)
	*l = withExtra(*l, more)
	return len(more) > 0
}
