package event

import (
	"calends/api"
	"calends/line"
	"calends/rule"
	"calends/when"
	"calends/zone"
)

// tell is the component of an object that is right: then all of it can be told.
func tell(o api.Object) api.Comp {
	c := api.Comp{Name: calendarName, Props: append([]api.Prop{plain(versionName, version)}, o.Extra...)}
	for _, z := range o.Zones {
		x, _ := zone.Tell(z)
		c.Comps = append(c.Comps, x)
	}
	c.Comps = append(c.Comps, tellItem(o, o.Main))
	for _, x := range o.Over {
		c.Comps = append(c.Comps, tellItem(o, x))
	}
	return c
}

// tellItem is an item's component.
func tellItem(o api.Object, x api.Item) api.Comp {
	c := api.Comp{Name: o.Kind, Props: []api.Prop{plain(uidName, o.UID)}}
	put := func(name string, l ...api.Moment) {
		for _, m := range l {
			c.Props = append(c.Props, dated(name, m))
		}
	}
	put(recurName, x.Recur...)
	put(startName, x.Start)
	if o.Kind == todoName {
		put(dueName, x.End...)
	} else {
		put(endName, x.End...)
	}
	for _, n := range x.Span {
		s, _ := when.PrintSpan(n)
		c.Props = append(c.Props, plain(durationName, s))
	}
	for _, r := range x.Rule {
		s, _ := rule.Print(r)
		c.Props = append(c.Props, plain(ruleName, s))
	}
	put(rdateName, x.RDates...)
	put(exdateName, x.EXDates...)
	c.Props = append(c.Props, x.Extra...)
	for _, a := range x.Alarms {
		c.Comps = append(c.Comps, tellAlarm(a))
	}
	return c
}

// tellAlarm is an alarm's component.
func tellAlarm(a api.Alarm) api.Comp {
	s, _ := when.PrintSpan(a.Behind)
	return api.Comp{Name: alarmName, Props: append([]api.Prop{plain(actionName, a.Action), plain(triggerName, s)}, a.Extra...)}
}

// plain is a property without parameters.
func plain(name, value string) api.Prop { return api.Prop{Name: name, Value: value} }

// dated is a moment's property.
func dated(name string, m api.Moment) api.Prop {
	p := api.Prop{Name: name}
	param, value := zoneParam, m.Zone
	switch {
	case m.Bare:
		param, value = valueParam, dateValue
		fallthrough
	case m.Zone != "":
		p = line.With(p, param, value)
		fallthrough
	default:
		p.Value, _ = when.Print(m.Time)
	}
	return p
}
