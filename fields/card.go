package fields

import (
	"cmp"
	"slices"
	"strings"

	"calends/api"
	"calends/card"
	"calends/comp"
	"calends/vcard"
)

// putCard puts a field to a card that begins; false, if it is none of its.
func putCard(c *api.Card, f api.Field) bool {
	if f.Key == fullKey {
		small, ok := with(api.Prop{Name: vcard.Full, Value: f.Value})
		c.Full = small.Full
		return ok && slices.ContainsFunc(vcard.Names(small), func(p api.Prop) bool { return p.Name == vcard.Full && p.Value == f.Value })
	}
	if s, ok := strings.CutPrefix(f.Key, telKey); ok {
		return putContact(&c.Tels, vcard.Tel, s, f.Value)
	}
	if s, ok := strings.CutPrefix(f.Key, emailKey); ok {
		return putContact(&c.Emails, vcard.Email, s, f.Value)
	}
	if s, ok := strings.CutPrefix(f.Key, adrKey); ok {
		return putContact(&c.Adrs, vcard.Adr, s, f.Value)
	}
	rest, ok := strings.CutPrefix(f.Key, itemExtra)
	return ok && putExtra(&c.Extra, rest, f.Value)
}

// putContact puts the contact that is told by just this row to others of its kind, as often as a value says.
func putContact(l *[]api.Contact, name, s, value string) bool {
	p, ok := told(s)
	if !ok || p.Name != name || often(value) == 0 {
		return false
	}
	small, ok := with(p)
	if !ok {
		return false
	}
	for _, x := range slices.Concat(small.Tels, small.Emails, small.Adrs) {
		ok = ok && row(vcard.Contact(name, x)) == s
		*l = slices.Concat(*l, slices.Repeat([]api.Contact{x}, often(value)))
	}
	order := func(a, b api.Contact) int {
		return cmp.Compare(row(vcard.Contact(name, a)), row(vcard.Contact(name, b)))
	}
	slices.SortStableFunc(*l, order)
	return ok
}

// with is a small card that has a property, as it is read.
func with(p api.Prop) (api.Card, bool) {
	x := vcard.Card(api.Card{UID: "u", Name: "n"})
	x.Props = append(x.Props, p)
	s, e := comp.Print(x)
	if e != nil {
		return api.Card{}, false
	}
	c, e := card.Parse(s)
	return c, e == nil
}
