// Package entry makes the components and properties of entries of a calendar that are right: all of these can be told.
package entry

import (
	"calends/api"
	"calends/line"
	"calends/rule"
	"calends/when"
	"calends/zone"
)

// The names of an entry's components and properties.
const (
	Calendar = "VCALENDAR"
	Event    = "VEVENT"
	Todo     = "VTODO"
	AlarmIn  = "VALARM"
	Zone     = "VTIMEZONE"

	UID      = "UID"
	Recur    = "RECURRENCE-ID"
	Start    = "DTSTART"
	End      = "DTEND"
	Due      = "DUE"
	Duration = "DURATION"
	Rule     = "RRULE"
	RDate    = "RDATE"
	EXDate   = "EXDATE"
	Action   = "ACTION"
	Trigger  = "TRIGGER"
	Version  = "VERSION"
)

// CalendarVersion is that of each calendar.
const CalendarVersion = "2.0"

// The parameters of moments, and what VALUE is of days.
const (
	Value     = "VALUE"
	ZoneID    = "TZID"
	DateValue = "DATE"
)

// Object is the component of an object.
func Object(o api.Object) api.Comp {
	c := api.Comp{Name: Calendar, Props: append([]api.Prop{Plain(Version, CalendarVersion)}, o.Extra...)}
	for _, z := range o.Zones {
		x, _ := zone.Tell(z)
		c.Comps = append(c.Comps, x)
	}
	c.Comps = append(c.Comps, Item(o, o.Main))
	for _, x := range o.Over {
		c.Comps = append(c.Comps, Item(o, x))
	}
	return c
}

// Item is the component of an object's item.
func Item(o api.Object, x api.Item) api.Comp {
	c := api.Comp{Name: o.Kind, Props: []api.Prop{Plain(UID, o.UID)}}
	put := func(name string, l ...api.Moment) {
		for _, m := range l {
			c.Props = append(c.Props, Moment(name, m))
		}
	}
	put(Recur, x.Recur...)
	put(Start, x.Start)
	c.Props = append(c.Props, Ends(o.Kind, x)...)
	for _, r := range x.Rule {
		s, _ := rule.Print(r)
		c.Props = append(c.Props, Plain(Rule, s))
	}
	put(RDate, x.RDates...)
	put(EXDate, x.EXDates...)
	c.Props = append(c.Props, x.Extra...)
	for _, a := range x.Alarms {
		c.Comps = append(c.Comps, Alarm(a))
	}
	return c
}

// Ends are the properties that tell when an item of a kind ends.
func Ends(kind string, x api.Item) []api.Prop {
	name := End
	if kind == Todo {
		name = Due
	}
	var l []api.Prop
	for _, m := range x.End {
		l = append(l, Moment(name, m))
	}
	for _, n := range x.Span {
		s, _ := when.PrintSpan(n)
		l = append(l, Plain(Duration, s))
	}
	return l
}

// Alarm is an alarm's component.
func Alarm(a api.Alarm) api.Comp {
	s, _ := when.PrintSpan(a.Behind)
	return api.Comp{Name: AlarmIn, Props: append([]api.Prop{Plain(Action, a.Action), Plain(Trigger, s)}, a.Extra...)}
}

// Plain is a property without parameters.
func Plain(name, value string) api.Prop { return api.Prop{Name: name, Value: value} }

// Moment is a moment's property.
func Moment(name string, m api.Moment) api.Prop {
	p := api.Prop{Name: name}
	param, value := ZoneID, m.Zone
	switch {
	case m.Bare:
		param, value = Value, DateValue
		fallthrough
	case m.Zone != "":
		p = line.With(p, param, value)
		fallthrough
	default:
		p.Value, _ = when.Print(m.Time)
	}
	return p
}
