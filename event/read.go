package event

import (
	"cmp"
	"errors"
	"slices"
	"strings"

	"calends/api"
	"calends/comp"
	"calends/entry"
	"calends/flaw"
	"calends/rule"
	"calends/when"
	"calends/zone"
)

// timeValue is what VALUE may be of moments that are no days.
const timeValue = "DATE-TIME"

// item is what is read of an item's component.
type item struct {
	uid string
	api.Item
}

// Parse reads an object.
func Parse(s string) (api.Object, error) {
	l, e := comp.Parse(s)
	if e != nil {
		return api.Object{}, e
	}
	kind := kindOf(l)
	if kind == "" {
		return api.Object{}, api.ErrKind
	}
	o, e := read(l[0], kind)
	if f := (flaw.Flaw{}); errors.As(e, &f) {
		// Whatever is wrong with a value: the object can't be read.
		return api.Object{}, flaw.In(f.Of, api.ErrForm)
	}
	sortAll(&o)
	if !Right(o) {
		return api.Object{}, api.ErrArg
	}
	return o, nil
}

// kindOf is the kind of the items that components hold; none, if they are not built as an object's.
func kindOf(l []api.Comp) string {
	if len(l) != 1 || l[0].Name != entry.Calendar {
		return ""
	}
	kind := ""
	for _, c := range l[0].Comps {
		if c.Name == entry.Zone {
			continue
		}
		if c.Name != entry.Event && c.Name != entry.Todo || kind != "" && kind != c.Name || slices.ContainsFunc(c.Comps, noAlarm) {
			return ""
		}
		kind = c.Name
	}
	return kind
}

// noAlarm tells whether a component is not built as an alarm's.
func noAlarm(c api.Comp) bool { return c.Name != entry.AlarmIn || len(c.Comps) > 0 }

// read is the object that a component tells, be it right or not.
func read(c api.Comp, kind string) (api.Object, error) {
	o := api.Object{Kind: kind}
	versions := comp.All(c, entry.Version)
	if len(versions) != 1 || !bare(versions[0]) || versions[0].Value != entry.CalendarVersion {
		return o, flaw.In(entry.Version, api.ErrForm)
	}
	o.Extra = others(c, isVersion)
	for _, x := range comp.Within(c, entry.Zone) {
		z, e := zone.Read(x)
		if e != nil {
			return o, flaw.In(entry.Zone, e)
		}
		o.Zones = append(o.Zones, z)
	}
	mains := 0
	for at, c := range comp.Within(c, kind) {
		x, e := readItem(c)
		if e != nil {
			return o, e
		}
		if at > 0 && x.uid != o.UID {
			return o, flaw.In(entry.UID, api.ErrForm)
		}
		o.UID = x.uid
		if len(x.Recur) > 0 {
			o.Over = append(o.Over, x.Item)
			continue
		}
		o.Main = x.Item
		mains++
	}
	if mains != 1 {
		return o, flaw.In(entry.Recur, api.ErrForm)
	}
	return o, nil
}

// others are a component's properties but those that mean something.
func others(c api.Comp, known func(name string) bool) []api.Prop {
	return slices.DeleteFunc(slices.Clone(c.Props), func(p api.Prop) bool { return known(p.Name) })
}

// readItem reads an item's component.
func readItem(c api.Comp) (item, error) {
	x := item{Item: api.Item{Extra: others(c, isKnown)}}
	count := map[string]int{}
	for _, p := range c.Props {
		if !isKnown(p.Name) {
			continue
		}
		name := p.Name
		if name == entry.Due {
			name = entry.End // they stand for one another
		}
		count[name]++
		if count[name] > 1 && name != entry.RDate && name != entry.EXDate {
			return x, flaw.In(p.Name, api.ErrForm)
		}
		if e := readKnown(&x, c.Name, p); e != nil {
			return x, flaw.In(p.Name, e)
		}
	}
	if count[entry.UID] == 0 || count[entry.Start] == 0 {
		return x, flaw.In(c.Name, api.ErrForm)
	}
	for _, a := range c.Comps {
		alarm, e := readAlarm(a)
		if e != nil {
			return x, e
		}
		x.Alarms = append(x.Alarms, alarm)
	}
	return x, nil
}

// readKnown reads a property of an item of a kind.
func readKnown(x *item, kind string, p api.Prop) error {
	moments := func(l *[]api.Moment, many bool) error {
		read, e := readMoments(p, many)
		*l = append(*l, read...)
		return e
	}
	switch p.Name {
	case entry.Recur:
		return moments(&x.Recur, false)
	case entry.RDate:
		return moments(&x.RDates, true)
	case entry.EXDate:
		return moments(&x.EXDates, true)
	case entry.Start:
		var l []api.Moment
		e := moments(&l, false)
		if e == nil {
			x.Start = l[0]
		}
		return e
	case entry.End, entry.Due:
		if (p.Name == entry.Due) != (kind == entry.Todo) {
			return api.ErrForm
		}
		return moments(&x.End, false)
	}
	if !bare(p) {
		return api.ErrForm
	}
	return readPlain(x, p)
}

// readPlain reads a property of an item that is no moment.
func readPlain(x *item, p api.Prop) error {
	switch p.Name {
	case entry.Duration:
		n, e := when.Span(p.Value)
		x.Span = append(x.Span, n)
		return e
	case entry.Rule:
		r, e := rule.Parse(p.Value)
		x.Rule = append(x.Rule, r)
		return e
	}
	x.uid = p.Value
	return nil
}

// readMoments reads a property as a moment, or as one or more.
func readMoments(p api.Prop, many bool) ([]api.Moment, error) {
	id, date := "", false
	for _, q := range p.Params {
		value := q.Values[0]
		switch {
		case len(q.Values) > 1:
			return nil, api.ErrForm
		case q.Name == entry.Value && (value == entry.DateValue || value == timeValue):
			date = value == entry.DateValue
		case q.Name == entry.ZoneID && value != "":
			id = value
		default:
			return nil, api.ErrForm
		}
	}
	values := []string{p.Value}
	if many {
		values = strings.Split(p.Value, ",")
	}
	var l []api.Moment
	for _, value := range values {
		t, e := when.Parse(value)
		if e != nil || t.Bare != date || p.Group != "" {
			return nil, api.ErrForm
		}
		l = append(l, api.Moment{Time: t, Zone: id})
	}
	return l, nil
}

// readAlarm reads an alarm's component.
func readAlarm(c api.Comp) (api.Alarm, error) {
	actions, triggers := comp.All(c, entry.Action), comp.All(c, entry.Trigger)
	if len(actions) != 1 || !bare(actions[0]) || len(triggers) != 1 || !bare(triggers[0]) {
		return api.Alarm{}, flaw.In(entry.AlarmIn, api.ErrForm)
	}
	n, e := when.Span(triggers[0].Value)
	if e != nil {
		return api.Alarm{}, flaw.In(entry.Trigger, e)
	}
	return api.Alarm{Action: actions[0].Value, Behind: n, Extra: others(c, ofAlarm)}, nil
}

// bare tells whether a property has neither a group nor parameters.
func bare(p api.Prop) bool { return p.Group == "" && len(p.Params) == 0 }

// sortAll sorts an object's lists, and has each date once.
func sortAll(o *api.Object) {
	o.Extra = Sorted(o.Extra)
	sortItem(&o.Main)
	for at := range o.Over {
		sortItem(&o.Over[at])
	}
	slices.SortStableFunc(o.Over, func(a, b api.Item) int { return bySeconds(a.Recur[0], b.Recur[0]) })
}

// sortItem sorts an item's lists.
func sortItem(x *api.Item) {
	x.Extra = Sorted(x.Extra)
	for at := range x.Alarms {
		x.Alarms[at].Extra = Sorted(x.Alarms[at].Extra)
	}
	for _, l := range []*[]api.Moment{&x.RDates, &x.EXDates} {
		slices.SortStableFunc(*l, bySeconds)
		*l = slices.Compact(*l)
	}
}

func bySeconds(a, b api.Moment) int { return cmp.Compare(seconds(a), seconds(b)) }
