package comp

import (
	"errors"

	"calends/api"
	"calends/ascii"
	"calends/line"
)

// open is a component that has not ended, and the line at which it began.
type open struct {
	api.Comp
	at int
}

// builder is the components that have ended, and those that are open, the innermost last.
type builder struct {
	done []api.Comp
	open []open
}

// place is an error at a line.
func place(at int, e error) error {
	var why api.Errno
	if errors.As(e, &why) {
		return &api.Fault{At: at, Err: why}
	}
	return e
}

// inner is the innermost open component, if there is one.
func (b *builder) inner() *open {
	if len(b.open) == 0 {
		return nil
	}
	return &b.open[len(b.open)-1]
}

// row takes the next row.
func (b *builder) row(row api.Row) error {
	p, e := line.Parse(row.Text)
	if e != nil {
		return e
	}
	switch p.Name {
	case begins:
		return b.begin(p, row.At)
	case ends:
		if !bounds(p) {
			return api.ErrForm
		}
		fallthrough
	default:
		return b.within(p)
	}
}

// bounds tells whether a property may begin or end a component.
func bounds(p api.Prop) bool {
	return p.Group == "" && len(p.Params) == 0 && named(ascii.Great(p.Value))
}

// begin opens a component.
func (b *builder) begin(p api.Prop, at int) error {
	switch {
	case !bounds(p):
		return api.ErrForm
	case len(b.open) == api.MaxDepth:
		return api.ErrDeep
	}
	b.open = append(b.open, open{api.Comp{Name: ascii.Great(p.Value)}, at})
	return nil
}

// within takes a property, or the end, of the innermost open component.
func (b *builder) within(p api.Prop) error {
	inner := b.inner()
	switch {
	case inner == nil:
		return api.ErrForm
	case p.Name != ends:
		inner.Props = append(inner.Props, p)
		return nil
	case ascii.Great(p.Value) != inner.Name:
		return api.ErrForm
	}
	ended := inner.Comp
	b.open = b.open[:len(b.open)-1]
	if outer := b.inner(); outer != nil {
		outer.Comps = append(outer.Comps, ended)
	} else {
		b.done = append(b.done, ended)
	}
	return nil
}
