// Package own makes copies that share no list with what they were made of: what is handed out is the caller's own.
package own

import (
	"slices"

	"calends/api"
)

// Prop is a copy of a property.
func Prop(p api.Prop) api.Prop {
	p.Params = List(p.Params, func(q api.Param) api.Param {
		q.Values = slices.Clone(q.Values)
		return q
	})
	return p
}

// Props is a copy of properties.
func Props(l []api.Prop) []api.Prop { return List(l, Prop) }

// Comp is a copy of a component.
func Comp(c api.Comp) api.Comp {
	c.Props = Props(c.Props)
	c.Comps = Comps(c.Comps)
	return c
}

// Comps is a copy of components.
func Comps(l []api.Comp) []api.Comp { return List(l, Comp) }

// Contact is a copy of a contact.
func Contact(c api.Contact) api.Contact {
	c.Types = slices.Clone(c.Types)
	c.Rows = List(c.Rows, slices.Clone)
	return c
}

// List is a copy of a list, by a copy of each member.
func List[T any](l []T, one func(T) T) []T {
	if len(l) == 0 {
		return nil
	}
	all := make([]T, len(l))
	for at, x := range l {
		all[at] = one(x)
	}
	return all
}
