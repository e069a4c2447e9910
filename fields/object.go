package fields

import (
	"cmp"
	"slices"
	"strings"

	"calends/api"
	"calends/comp"
	"calends/entry"
	"calends/event"
	"calends/line"
	"calends/rule"
	"calends/when"
	"calends/zone"
)

// beginObject is an object of just its kind, its UID, its zones and its start.
func beginObject(value func(key string) string, l []api.Field) (api.Object, bool) {
	start, e := line.Parse(value(startKey))
	if e != nil || start.Name != entry.Start {
		return api.Object{}, false
	}
	c := api.Comp{Name: entry.Calendar, Props: []api.Prop{entry.Plain(entry.Version, entry.CalendarVersion)}}
	for _, z := range zones(l) {
		x, e := zone.Tell(z)
		if e != nil {
			return api.Object{}, false
		}
		c.Comps = append(c.Comps, x)
	}
	c.Comps = append(c.Comps, api.Comp{Name: value(kindKey), Props: []api.Prop{entry.Plain(entry.UID, value(uidKey)), start}})
	s, e := comp.Print(c)
	if e != nil {
		return api.Object{}, false
	}
	o, e := event.Parse(s)
	return o, e == nil
}

// zones are those that fields tell, as many as there may be.
func zones(l []api.Field) []api.Zone {
	var all []api.Zone
	for _, f := range l {
		id, ok := strings.CutPrefix(f.Key, zoneKey)
		if !ok || len(all) == api.MaxZones {
			continue
		}
		comps, e := comp.Parse(f.Value)
		if e != nil || len(comps) != 1 {
			continue
		}
		if z, e := zone.Read(comps[0]); e == nil && z.ID == id {
			all = append(all, z)
		}
	}
	return all
}

// putObject puts a field to an object that begins; false, if it is none of its.
func putObject(o *api.Object, f api.Field) bool {
	if rest, ok := strings.CutPrefix(f.Key, overKey); ok {
		return putOver(o, rest, f.Value)
	}
	if rest, ok := strings.CutPrefix(f.Key, objectExtra); ok {
		return putExtra(&o.Extra, rest, f.Value)
	}
	return putItem(o.Kind, &o.Main, f.Key, f.Value)
}

// putOver puts a field to an instance that is another one, or brings it.
func putOver(o *api.Object, key, value string) bool {
	s, key, ok := strings.Cut(key, "/")
	t, e := when.Parse(s)
	if !ok || e != nil {
		return false
	}
	which := api.Moment{Time: t, Zone: o.Main.Start.Zone}
	o.Over = slices.Clone(o.Over)
	if key == startKey {
		start, ok := moment(entry.Start, value)
		o.Over = append(o.Over, api.Item{Recur: []api.Moment{which}, Start: start})
		slices.SortStableFunc(o.Over, func(a, b api.Item) int { return bySeconds(a.Recur[0], b.Recur[0]) })
		return ok
	}
	at := slices.IndexFunc(o.Over, func(x api.Item) bool { return x.Recur[0] == which })
	return at >= 0 && putItem(o.Kind, &o.Over[at], key, value)
}

// putItem puts a field to an item of a kind.
func putItem(kind string, x *api.Item, key, value string) bool {
	switch key {
	case endKey:
		return putEnd(kind, x, value)
	case ruleKey:
		r, e := rule.Parse(value)
		s, _ := rule.Print(r)
		x.Rule = []api.Rule{r}
		return e == nil && s == value
	}
	if s, ok := strings.CutPrefix(key, rdateKey); ok {
		return putDate(&x.RDates, x.Start.Zone, s, value)
	}
	if s, ok := strings.CutPrefix(key, exdateKey); ok {
		return putDate(&x.EXDates, x.Start.Zone, s, value)
	}
	if s, ok := strings.CutPrefix(key, alarmKey); ok {
		a, ok := alarm(s)
		x.Alarms = slices.Concat(x.Alarms, slices.Repeat([]api.Alarm{a}, often(value)))
		return ok && often(value) > 0
	}
	rest, ok := strings.CutPrefix(key, itemExtra)
	return ok && putExtra(&x.Extra, rest, value)
}

// putEnd puts an end's row, or how long it is, to an item of a kind.
func putEnd(kind string, x *api.Item, value string) bool {
	p, ok := told(value)
	if !ok {
		return false
	}
	if p.Name == entry.Duration {
		n, e := when.Span(p.Value)
		x.Span = []int{n}
		if e != nil {
			return false
		}
	} else {
		m, _ := moment(p.Name, value)
		x.End = []api.Moment{m}
	}
	// The name of an end is that of its kind.
	l := entry.Ends(kind, *x)
	return len(l) == 1 && row(l[0]) == value
}

// putDate puts a date to others.
func putDate(l *[]api.Moment, zone, s, value string) bool {
	t, e := when.Parse(s)
	*l = append(slices.Clone(*l), api.Moment{Time: t, Zone: zone})
	slices.SortStableFunc(*l, bySeconds)
	return e == nil && value == once
}

// moment is the moment that is told by just this row.
func moment(name, s string) (api.Moment, bool) {
	p, e := line.Parse(s)
	if e != nil {
		return api.Moment{}, false
	}
	t, e := when.Parse(p.Value)
	id, _ := line.Get(p, entry.ZoneID)
	m := api.Moment{Time: t, Zone: id}
	return m, e == nil && row(entry.Moment(name, m)) == s
}

// alarm is the one that is told by just this text.
func alarm(s string) (api.Alarm, bool) {
	l, e := comp.Parse(s)
	if e != nil || len(l) != 1 {
		return api.Alarm{}, false
	}
	action, _ := comp.One(l[0], entry.Action)
	trigger, _ := comp.One(l[0], entry.Trigger)
	n, e := when.Span(trigger.Value)
	a := api.Alarm{Action: action.Value, Behind: n}
	for _, p := range l[0].Props {
		if p.Name != entry.Action && p.Name != entry.Trigger {
			a.Extra = append(a.Extra, p)
		}
	}
	back, _ := comp.Print(entry.Alarm(a))
	return a, e == nil && back == s
}

func bySeconds(a, b api.Moment) int { return cmp.Compare(when.Seconds(a.Time), when.Seconds(b.Time)) }
