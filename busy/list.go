package busy

import (
	"errors"
	"slices"
	"strings"

	"calends/api"
	"calends/ascii"
	"calends/comp"
	"calends/flaw"
	"calends/when"
)

// The names of a list's components and properties.
const (
	calendarName = "VCALENDAR"
	listName     = "VFREEBUSY"
	versionName  = "VERSION"
	version      = "2.0"
	uidName      = "UID"
	startName    = "DTSTART"
	endName      = "DTEND"
	timeName     = "FREEBUSY"
	typeParam    = "FBTYPE"
)

// types are the words of the kinds.
var types = [...]string{"", "BUSY-TENTATIVE", "BUSY", "BUSY-UNAVAILABLE"}

// list is a list of busy times, with its UID and its window.
type list struct {
	uid      string
	from, to api.Time
	times    []api.Busy
}

// Print is a list's text.
func Print(uid string, from, to api.Time, l ...api.Busy) (string, error) {
	switch {
	case !mayUID(uid) || !isWindow(from, to) || !slices.Equal(Merge(clipped(l, from, to)...), l):
		return "", api.ErrArg
	case len(l) > api.MaxBusy:
		return "", api.ErrMany
	}
	text := func(t api.Time) string {
		s, _ := when.Print(t)
		return s
	}
	c := api.Comp{Name: listName, Props: []api.Prop{plain(uidName, uid), plain(startName, text(from)), plain(endName, text(to))}}
	for _, b := range l {
		p := plain(timeName, text(b.From)+"/"+text(b.To))
		p.Params = []api.Param{{Name: typeParam, Values: []string{types[b.Kind]}}}
		c.Props = append(c.Props, p)
	}
	return comp.Print(api.Comp{Name: calendarName, Props: []api.Prop{plain(versionName, version)}, Comps: []api.Comp{c}})
}

// Parse reads a list.
func Parse(s string) (string, api.Time, api.Time, []api.Busy, error) {
	l, e := parse(s)
	if f := (flaw.Flaw{}); errors.As(e, &f) {
		// Whatever is wrong with a value: the list can't be read.
		e = flaw.In(f.Of, api.ErrForm)
	}
	if e == nil && (!isWindow(l.from, l.to) || !mayUID(l.uid)) {
		e = api.ErrArg
	}
	if e != nil {
		return "", api.Time{}, api.Time{}, nil, e
	}
	return l.uid, l.from, l.to, Merge(clipped(l.times, l.from, l.to)...), nil
}

// mayUID tells whether a text may be a list's UID.
func mayUID(s string) bool { return s != "" && len(s) <= api.MaxUID && ascii.Stands(s) }

// plain is a property without parameters.
func plain(name, value string) api.Prop { return api.Prop{Name: name, Value: value} }

// parse reads a list, be it right or not.
func parse(s string) (list, error) {
	var l list
	all, e := comp.Parse(s)
	if e != nil {
		return l, e
	}
	if len(all) != 1 || all[0].Name != calendarName || len(all[0].Comps) != 1 || all[0].Comps[0].Name != listName || len(all[0].Comps[0].Comps) > 0 {
		return l, api.ErrKind
	}
	c := all[0].Comps[0]
	if v, e := only(all[0], versionName); e != nil || v != version {
		return l, flaw.In(versionName, api.ErrForm)
	}
	if l.uid, e = only(c, uidName); e != nil {
		return l, e
	}
	if l.from, e = onlyTime(c, startName); e != nil {
		return l, e
	}
	if l.to, e = onlyTime(c, endName); e != nil {
		return l, e
	}
	for _, p := range comp.All(c, timeName) {
		times, e := readTimes(p)
		if e != nil {
			return l, flaw.In(timeName, e)
		}
		l.times = append(l.times, times...)
	}
	return l, nil
}

// only is the value of the one property with a name that there must be.
func only(c api.Comp, name string) (string, error) {
	l := comp.All(c, name)
	if len(l) != 1 || l[0].Group != "" || len(l[0].Params) > 0 {
		return "", flaw.In(name, api.ErrForm)
	}
	return l[0].Value, nil
}

// onlyTime is the time of the one property with a name that there must be.
func onlyTime(c api.Comp, name string) (api.Time, error) {
	value, e := only(c, name)
	if e != nil {
		return api.Time{}, e
	}
	t, e := when.Parse(value)
	if e != nil {
		return api.Time{}, flaw.In(name, e)
	}
	return t, nil
}

// readTimes reads a property as busy times.
func readTimes(p api.Prop) ([]api.Busy, error) {
	kind := api.BusyYes
	for _, q := range p.Params {
		if q.Name != typeParam || len(q.Values) != 1 {
			return nil, api.ErrForm
		}
		kind = typeOf(q.Values[0])
	}
	if p.Group != "" || kind == 0 {
		return nil, api.ErrForm
	}
	var l []api.Busy
	for part := range strings.SplitSeq(p.Value, ",") {
		from, to, e := when.Period(part)
		if e != nil || !from.UTC {
			return nil, api.ErrForm
		}
		l = append(l, api.Busy{Kind: kind, From: from, To: to})
	}
	return l, nil
}

// typeOf is the kind that a word is; 0: none.
func typeOf(word string) int {
	for kind, one := range types {
		if word == one {
			return kind
		}
	}
	return 0
}
