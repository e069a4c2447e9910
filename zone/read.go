package zone

import (
	"errors"

	"calends/api"
	"calends/comp"
	"calends/flaw"
	"calends/rule"
	"calends/when"
)

// The names of a zone's and an observance's properties.
const (
	idName    = "TZID"
	startName = "DTSTART"
	fromName  = "TZOFFSETFROM"
	toName    = "TZOFFSETTO"
	ruleName  = "RRULE"
)

// part is a property of an observance: its name, and how its value is read.
type part struct {
	name string
	read func(value string) error
}

// Read reads a component as a zone.
func Read(c api.Comp) (api.Zone, error) {
	ids := comp.All(c, idName)
	if c.Name != zoneName || len(ids) != 1 {
		return api.Zone{}, api.ErrForm
	}
	z := api.Zone{ID: ids[0].Value}
	for _, x := range c.Comps {
		if x.Name != standard && x.Name != daylight {
			continue
		}
		o, e := readObs(x)
		if f := (flaw.Flaw{}); errors.As(e, &f) {
			// Whatever is wrong with a value: the component can't be read.
			return api.Zone{}, flaw.In(f.Of, api.ErrForm)
		}
		z.Obs = append(z.Obs, o)
	}
	if !Right(z) {
		return api.Zone{}, api.ErrArg
	}
	return z, nil
}

// Tell is a zone's component.
func Tell(z api.Zone) (api.Comp, error) {
	if !Right(z) {
		return api.Comp{}, api.ErrArg
	}
	c := api.Comp{Name: zoneName, Props: []api.Prop{{Name: idName, Value: z.ID}}}
	for _, o := range z.Obs {
		c.Comps = append(c.Comps, tellObs(o))
	}
	return c, nil
}

// readObs reads a component as an observance, be it right or not.
func readObs(c api.Comp) (api.Obs, error) {
	o := api.Obs{Name: c.Name}
	for _, p := range parts(&o) {
		if e := readPart(c, p); e != nil {
			return o, flaw.In(c.Name, e)
		}
	}
	return o, nil
}

// parts are the properties that an observance is read of.
func parts(o *api.Obs) []part {
	return []part{
		{startName, func(value string) (e error) {
			o.Start, e = when.Parse(value)
			return e
		}},
		{fromName, func(value string) (e error) {
			o.From, e = when.Offset(value)
			return e
		}},
		{toName, func(value string) (e error) {
			o.To, e = when.Offset(value)
			return e
		}},
		{ruleName, func(value string) error {
			r, e := rule.Parse(value)
			o.Rule = append(o.Rule, r)
			return e
		}},
	}
}

// readPart reads a property of an observance's component.
func readPart(c api.Comp, p part) error {
	found := comp.All(c, p.name)
	switch p.name {
	case startName, fromName, toName:
		if len(found) == 0 {
			return api.ErrForm
		}
		fallthrough
	default:
		if len(found) > 1 {
			return api.ErrForm
		}
	}
	for _, x := range found {
		if e := p.read(x.Value); e != nil {
			return e
		}
	}
	return nil
}

// tellObs is an observance's component, if it is right: then all of it can be told.
func tellObs(o api.Obs) api.Comp {
	start, _ := when.Print(o.Start)
	from, _ := when.PrintOffset(o.From)
	to, _ := when.PrintOffset(o.To)
	c := api.Comp{Name: o.Name, Props: []api.Prop{{Name: startName, Value: start}, {Name: fromName, Value: from}, {Name: toName, Value: to}}}
	for _, r := range o.Rule {
		s, _ := rule.Print(r)
		c.Props = append(c.Props, api.Prop{Name: ruleName, Value: s})
	}
	return c
}
