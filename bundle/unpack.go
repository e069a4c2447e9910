package bundle

import (
	"slices"

	"calends/api"
	"calends/card"
	"calends/comp"
	"calends/event"
	"calends/text"
)

// Unpack takes things out of a text.
func Unpack(s string) ([]api.Field, error) {
	all, e := comp.Parse(s)
	if e != nil {
		return nil, e
	}
	if slices.ContainsFunc(all, func(c api.Comp) bool { return c.Name != calendarName && c.Name != cardName }) {
		return nil, api.ErrKind
	}
	var l []api.Field
	names := map[string]int{}
	for _, c := range things(all) {
		f, e := thing(c)
		if e == nil && names[f.Key] > 0 {
			e = api.ErrThere
		}
		if e != nil {
			return nil, place(len(l)+1, e)
		}
		names[f.Key]++
		l = append(l, f)
	}
	if len(l) > api.MaxThings {
		return nil, api.ErrMany
	}
	return l, nil
}

// things are the components of one thing each.
func things(all []api.Comp) []api.Comp {
	var l []api.Comp
	for _, c := range all {
		if c.Name == cardName {
			l = append(l, c)
			continue
		}
		l = append(l, groups(c)...)
	}
	return l
}

// groups are the calendars of those components of one that have the same UID.
func groups(c api.Comp) []api.Comp {
	var zones []api.Comp
	var l []calendar
	places := map[string]int{}
	for _, x := range c.Comps {
		uid := value(x, uidName)
		switch at := places[uid]; {
		case x.Name == zoneName:
			zones = append(zones, x)
		case at == 0:
			l = append(l, calendar{props: c.Props})
			places[uid] = len(l)
			fallthrough
		default:
			own := &l[places[uid]-1]
			own.items = append(own.items, x)
		}
	}
	var all []api.Comp
	for _, own := range l {
		ids := zoneIDs(own.items)
		for _, z := range zones {
			if id, has := comp.One(z, zoneID); has && ids[id.Value] > 0 {
				own.zones = append(own.zones, z)
			}
		}
		all = append(all, api.Comp{Name: calendarName, Props: own.props, Comps: slices.Concat(own.zones, own.items)})
	}
	return all
}

// zoneIDs are those that the moments of components name.
func zoneIDs(items []api.Comp) map[string]int {
	ids := map[string]int{}
	for _, x := range items {
		for _, name := range []string{"DTSTART", "DTEND", "DUE", "RDATE", "EXDATE", "RECURRENCE-ID"} {
			for _, p := range comp.All(x, name) {
				for _, q := range p.Params {
					if q.Name != zoneID {
						continue
					}
					for _, id := range q.Values {
						ids[id]++
					}
				}
			}
		}
	}
	return ids
}

// thing is the name and the text of a component of one thing.
func thing(c api.Comp) (api.Field, error) {
	parts := []*api.Comp{&c}
	if c.Name == calendarName {
		parts = nil
		c.Comps = slices.Clone(c.Comps)
		for at := range c.Comps {
			if c.Comps[at].Name != zoneName {
				parts = append(parts, &c.Comps[at])
			}
		}
	}
	name := nameOf(parts)
	for _, x := range parts {
		x.Props = slices.DeleteFunc(slices.Clone(x.Props), func(p api.Prop) bool { return p.Name == markName })
	}
	s, e := told(c)
	if e != nil {
		return api.Field{}, api.ErrForm
	}
	if !mayName(name) {
		return api.Field{}, api.ErrArg
	}
	return api.Field{Key: name, Value: s}, nil
}

// nameOf is what the mark of a thing's components says, or else their UID.
func nameOf(parts []*api.Comp) string {
	for _, x := range parts {
		for _, p := range comp.All(*x, markName) {
			if s, e := text.Unescape(p.Value); e == nil && p.Group == "" && len(p.Params) == 0 {
				return s
			}
		}
	}
	return value(*parts[0], uidName)
}

// told is the text of a component of one thing, as entries or cards are told.
func told(c api.Comp) (string, error) {
	s, e := comp.Print(c)
	if e != nil {
		return "", e
	}
	if c.Name == cardName {
		x, e := card.Parse(s)
		if e != nil {
			return "", e
		}
		return card.Print(x)
	}
	o, e := event.Parse(s)
	if e != nil {
		return "", e
	}
	return event.Print(o)
}
