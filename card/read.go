package card

import (
	"cmp"
	"errors"
	"slices"
	"strconv"

	"calends/api"
	"calends/ascii"
	"calends/comp"
	"calends/event"
	"calends/flaw"
	"calends/line"
	"calends/text"
	"calends/vcard"
)

// Parse reads a card.
func Parse(s string) (api.Card, error) {
	l, e := comp.Parse(s)
	if e != nil {
		return api.Card{}, e
	}
	if len(l) != 1 || l[0].Name != vcard.CardIn || len(l[0].Comps) > 0 {
		return api.Card{}, api.ErrKind
	}
	c, e := read(l[0])
	if f := (flaw.Flaw{}); errors.As(e, &f) {
		return api.Card{}, f
	}
	if !Right(c) {
		return api.Card{}, api.ErrArg
	}
	return c, nil
}

// read is the card that a component tells, be it right or not.
func read(x api.Comp) (api.Card, error) {
	var c api.Card
	if e := readNames(&c, x); e != nil {
		return c, e
	}
	contacts := func(name string) ([]api.Contact, error) {
		var l []api.Contact
		for _, p := range comp.All(x, name) {
			one, e := readContact(p)
			if e != nil {
				return nil, flaw.In(name, e)
			}
			l = append(l, one)
		}
		slices.SortStableFunc(l, func(a, b api.Contact) int { return cmp.Compare(row(name, a), row(name, b)) })
		return l, nil
	}
	var e1, e2, e3 error
	c.Tels, e1 = contacts(vcard.Tel)
	c.Emails, e2 = contacts(vcard.Email)
	c.Adrs, e3 = contacts(vcard.Adr)
	if e := cmp.Or(e1, e2, e3); e != nil {
		return c, e
	}
	c.Extra = event.Sorted(slices.DeleteFunc(x.Props, func(p api.Prop) bool { return isKnown(p.Name) }))
	return c, nil
}

// row is a contact's row, by which contacts are in order.
func row(name string, x api.Contact) string {
	s, _ := line.Print(vcard.Contact(name, x))
	return s
}

// readNames reads a card's version, UID and names.
func readNames(c *api.Card, x api.Comp) error {
	values := map[string][]string{}
	for _, name := range []string{vcard.Version, vcard.UID, vcard.Name, vcard.Full} {
		for _, p := range comp.All(x, name) {
			if p.Group != "" || len(p.Params) > 0 {
				return flaw.In(name, api.ErrForm)
			}
			values[name] = append(values[name], p.Value)
		}
		if n := len(values[name]); n > 1 || n == 0 && name != vcard.Full {
			return flaw.In(name, api.ErrForm)
		}
	}
	if values[vcard.Version][0] != vcard.CardVersion {
		return flaw.In(vcard.Version, api.ErrForm)
	}
	c.UID = values[vcard.UID][0]
	var e error
	if c.Name, e = text.Unescape(values[vcard.Name][0]); e != nil {
		return flaw.In(vcard.Name, e)
	}
	for _, value := range values[vcard.Full] {
		if c.Full, e = readRows(value, fullRows); e != nil {
			return flaw.In(vcard.Full, e)
		}
	}
	return nil
}

// readRows reads so many rows of texts, of which the last ones may be missing.
func readRows(value string, many int) ([][]string, error) {
	rows, e := text.Unfields(value)
	if e != nil || len(rows) > many {
		return nil, api.ErrForm
	}
	for len(rows) < many {
		rows = append(rows, nil)
	}
	return rows, nil
}

// readContact reads a contact's property.
func readContact(p api.Prop) (api.Contact, error) {
	x := api.Contact{Group: p.Group}
	for _, q := range p.Params {
		switch q.Name {
		case vcard.Type:
			for _, one := range q.Values {
				x.Types = append(x.Types, ascii.Small(one))
			}
			slices.Sort(x.Types)
			x.Types = slices.Compact(x.Types)
		case vcard.Pref:
			n, e := readPref(q.Values)
			if e != nil {
				return x, e
			}
			x.Pref = n
		default:
			return x, api.ErrForm
		}
	}
	if p.Name == vcard.Adr {
		rows, e := readRows(p.Value, adrRows)
		x.Rows = rows
		return x, e
	}
	s, e := text.Unescape(p.Value)
	x.Rows = [][]string{{s}}
	return x, e
}

// readPref reads how preferred a contact is.
func readPref(values []string) (int, error) {
	if len(values) != 1 || !ascii.Digits(values[0]) || values[0][0] == '0' || len(values[0]) > len("100") {
		return 0, api.ErrForm
	}
	n, e := strconv.Atoi(values[0])
	if e != nil || n > maxPref {
		return 0, api.ErrForm
	}
	return n, nil
}
