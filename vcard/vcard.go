// Package vcard makes the components and properties of cards that are right: all of these can be told.
package vcard

import (
	"strconv"

	"calends/api"
	"calends/line"
	"calends/text"
)

// The names of a card's component and properties.
const (
	CardIn  = "VCARD"
	Version = "VERSION"
	UID     = "UID"
	Name    = "FN"
	Full    = "N"
	Tel     = "TEL"
	Email   = "EMAIL"
	Adr     = "ADR"
	Type    = "TYPE"
	Pref    = "PREF"
)

// CardVersion is that of each card.
const CardVersion = "4.0"

// Card is the component of a card.
func Card(c api.Card) api.Comp {
	x := api.Comp{Name: CardIn, Props: append([]api.Prop{plain(Version, CardVersion)}, Names(c)...)}
	put := func(name string, l []api.Contact) {
		for _, one := range l {
			x.Props = append(x.Props, Contact(name, one))
		}
	}
	put(Tel, c.Tels)
	put(Email, c.Emails)
	put(Adr, c.Adrs)
	x.Props = append(x.Props, c.Extra...)
	return x
}

// plain is a property without parameters.
func plain(name, value string) api.Prop { return api.Prop{Name: name, Value: value} }

// Names are the properties of a card's UID and names; one that can't be written is no right property.
func Names(c api.Card) []api.Prop {
	all := []api.Prop{plain(UID, c.UID), valued(Name)(text.Escape(c.Name))}
	if len(c.Full) > 0 {
		all = append(all, valued(Full)(text.Fields(c.Full...)))
	}
	return all
}

// Contact is a contact's property; of one that can't be written no right one.
func Contact(name string, x api.Contact) api.Prop {
	p := valued(name)(text.Fields(x.Rows...))
	p.Group = x.Group
	p = line.With(p, Type, x.Types...)
	if x.Pref > 0 {
		p = line.With(p, Pref, strconv.Itoa(x.Pref))
	}
	return p
}

// valued makes the property with a name and a value, if there is that.
func valued(name string) func(value string, e error) api.Prop {
	return func(value string, e error) api.Prop {
		if e != nil {
			return api.Prop{}
		}
		return plain(name, value)
	}
}
