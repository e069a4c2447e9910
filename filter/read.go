package filter

import (
	"errors"
	"strconv"
	"strings"

	"calends/api"
	"calends/ascii"
	"calends/text"
	"calends/when"
)

// fault is that a text is no filter's, and where that shows.
type fault struct {
	at  int
	err error
}

// Error is its text.
func (f fault) Error() string { return "byte " + strconv.Itoa(f.at) + ": " + f.err.Error() }

// Unwrap is the error that it wraps.
func (f fault) Unwrap() error { return f.err }

// rest is what is left of a text, from a byte on.
type rest struct {
	text string
	at   int
}

// reader reads a filter's text; what can't be read ends it by a panic with a fault.
type reader struct {
	rest
}

// Parse reads a filter.
func Parse(s string) (api.Filter, error) {
	if len(s) > api.MaxRow {
		return api.Filter{}, api.ErrLong
	}
	f, e := read(s)
	if bad := (fault{}); errors.As(e, &bad) {
		return api.Filter{}, bad
	}
	if !Right(f) {
		return api.Filter{}, api.ErrArg
	}
	return f, nil
}

// read is the filter that a text tells, be it right or not.
func read(s string) (f api.Filter, e error) {
	defer func() {
		if p := recover(); p != nil {
			bad, ours := p.(fault)
			if !ours {
				panic(p)
			}
			f, e = api.Filter{}, bad
		}
	}()
	r := reader{rest{text: s}}
	r.blanks()
	f = r.filter()
	r.blanks()
	if r.at < len(r.text) {
		r.fail()
	}
	return f, nil
}

// fail ends the reader.
func (r *reader) fail() { panic(fault{r.at, api.ErrForm}) }

// filter reads one.
func (r *reader) filter() api.Filter {
	r.sign('(')
	f := api.Filter{Kind: r.oneOf(len(kindWords), func(at int) string { return kindWords[at] })}
	switch f.Kind {
	case api.FilterAll, api.FilterAny, api.FilterNot:
		for r.more() {
			f.Kids = append(f.Kids, r.filter())
		}
	case api.FilterRange:
		f.From, f.To = r.time(), r.time()
	default:
		f.Name = r.name()
	}
	switch f.Kind {
	case api.FilterParam:
		f.Param = r.name()
		fallthrough
	case api.FilterText:
		r.gap()
		f.How = r.oneOf(len(howWords), func(at int) string { return howWords[at] })
		f.Text = r.quoted()
	}
	r.blanks()
	r.sign(')')
	return f
}

// next is the byte that comes next; 0 at the end.
func (r *reader) next() byte {
	if r.at == len(r.text) {
		return 0
	}
	return r.text[r.at]
}

// sign takes a byte that must come next.
func (r *reader) sign(c byte) {
	if r.at == len(r.text) || r.next() != c {
		r.fail()
	}
	r.at++
}

// blanks takes those that come next, and tells whether there are some.
func (r *reader) blanks() bool {
	from := r.at
	for r.next() == ' ' {
		r.at++
	}
	return r.at > from
}

// gap takes the blanks that must come next.
func (r *reader) gap() {
	if !r.blanks() {
		r.fail()
	}
}

// more tells whether another filter comes, and takes the blanks ahead of it.
func (r *reader) more() bool { return r.blanks() && r.next() == '(' }

// token takes the bytes up to a blank, a parenthesis or a ".
func (r *reader) token() string {
	n := strings.IndexAny(r.text[r.at:], ` ()"`)
	if n < 0 {
		n = len(r.text) - r.at
	}
	if n == 0 {
		r.fail()
	}
	r.at += n
	return r.text[r.at-n : r.at]
}

// oneOf is which one of so many words comes next, in whatever letters.
func (r *reader) oneOf(many int, word func(at int) string) int {
	token := ascii.Small(r.token())
	for at := range many {
		if token == word(at) {
			return at
		}
	}
	r.fail()
	return 0
}

// name reads a name, behind a gap.
func (r *reader) name() string {
	r.gap()
	return ascii.Great(r.token())
}

// time reads a time, behind a gap.
func (r *reader) time() api.Time {
	r.gap()
	t, e := when.Parse(r.token())
	if e != nil {
		r.fail()
	}
	return t
}

// quoted reads a text, behind a gap.
func (r *reader) quoted() string {
	r.gap()
	r.sign('"')
	var written strings.Builder
	for r.next() != '"' {
		if r.next() == '\\' {
			r.at++
			if r.next() != '"' {
				written.WriteByte('\\')
			}
		}
		if r.at == len(r.text) {
			r.fail()
		}
		written.WriteByte(r.next())
		r.at++
	}
	r.sign('"')
	s, e := text.Unescape(written.String())
	if e != nil {
		r.fail()
	}
	return s
}
