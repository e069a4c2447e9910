package line

import (
	"strings"

	"calends/api"
	"calends/ascii"
)

// reader is what is left of a row.
type reader struct {
	rest string
}

// prop is the property that the whole row is.
func (r *reader) prop() (api.Prop, error) {
	var p api.Prop
	p.Name = r.name()
	if r.sign('.') {
		p.Group, p.Name = p.Name, r.name()
		if p.Group == "" {
			return p, flaw("no group")
		}
	}
	if p.Name == "" {
		return p, flaw("no name")
	}
	for r.sign(';') {
		q, e := r.param()
		if e != nil {
			return p, e
		}
		p.Params = append(p.Params, q)
	}
	if !r.sign(':') {
		return p, flaw("no value")
	}
	if !ascii.Stands(r.rest) {
		return p, flaw("a value that may not stand")
	}
	p.Value = r.rest
	return p, nil
}

// param is a parameter, behind its sign.
func (r *reader) param() (api.Param, error) {
	q := api.Param{Name: r.name()}
	if q.Name == "" {
		return q, flaw("no name of a parameter")
	}
	if !r.sign('=') {
		return q, flaw("no values of a parameter")
	}
	for {
		value, e := r.value()
		if e != nil {
			return q, e
		}
		q.Values = append(q.Values, value)
		if !r.sign(',') {
			return q, nil
		}
	}
}

// value is one of a parameter's.
func (r *reader) value() (string, error) {
	// What ends a value is all that differs between the two ways.
	ends := `";:,`
	quoted := r.sign('"')
	if quoted {
		ends = `"`
	}
	value := r.take(func(c byte) bool { return ascii.MayStand(c) && strings.IndexByte(ends, c) < 0 })
	if quoted && !r.sign('"') {
		return "", flaw("a quoted value without an end")
	}
	return said(value), nil
}

// name is the name that comes next, in great letters.
func (r *reader) name() string { return ascii.Great(r.take(inName)) }

// take is the bytes that come next, as many as are such.
func (r *reader) take(such func(byte) bool) string {
	n := 0
	for n < len(r.rest) && such(r.rest[n]) {
		n++
	}
	taken := r.rest[:n]
	r.rest = r.rest[n:]
	return taken
}

// sign takes a byte, if it comes next.
func (r *reader) sign(c byte) bool {
	if r.rest == "" || r.rest[0] != c {
		return false
	}
	r.rest = r.rest[1:]
	return true
}

// said is what a parameter's value says.
func said(value string) string {
	var b strings.Builder
	for at := 0; at < len(value); at++ {
		switch c := value[at]; c {
		case '^':
			if meant, is := escaped(value[at+1:]); is {
				b.WriteByte(meant)
				at++
				continue
			}
			fallthrough
		default:
			b.WriteByte(c)
		}
	}
	return b.String()
}

// escaped is the byte that is meant by what stands behind a ^.
func escaped(behind string) (byte, bool) {
	if behind == "" {
		return 0, false
	}
	switch behind[0] {
	case 'n':
		return '\n', true
	case '\'':
		return '"', true
	case '^':
		return '^', true
	}
	return 0, false
}
