package text_test

import (
	"errors"
	"slices"
	"testing"

	"calends/api"
	"calends/text"
)

func answers[T any](t *testing.T, what string, got T, e error, right bool) {
	t.Helper()
	if e != nil || !right {
		t.Fatalf("%s: %v, %v", what, got, e)
	}
}

func refused(t *testing.T, what string, e error, nothing bool) {
	t.Helper()
	if !errors.Is(e, api.ErrForm) || api.Place(e) != 0 || !nothing {
		t.Fatalf("%s: %v; want ErrForm, and nothing beside it", what, e)
	}
}

// unwritten are texts that may not be written; unread are values that are none.
func unwritten() []string { return []string{"\r", "a\x00", "\x1f", "\x7f", "a\rb"} }

func unread() []string {
	return []string{"\\", "a\\", "\\a", "\\ ", "\\:", "\\\n", "a\nb", "\r", "\x7f", "\x00", "\\\\\\", "\\\"", "\\\xc3"}
}

func sameRows(a, b [][]string) bool {
	return slices.EqualFunc(a, b, func(x, y []string) bool { return slices.Equal(x, y) })
}

// P6.1

func TestEscape(t *testing.T) {
	for s, want := range map[string]string{
		"": "", "a;b,c": "a\\;b\\,c", "\\": "\\\\", "\n": "\\n", "\\n": "\\\\n", "a:\"b\"\t^": "a:\"b\"\t^", "é\xff": "é\xff", "\n\n;": "\\n\\n\\;",
	} {
		got, e := text.Escape(s)
		answers(t, "Escape", got, e, got == want)
	}
	for _, s := range unwritten() {
		got, e := text.Escape(s)
		refused(t, "Escape "+s, e, got == "")
	}
}

func TestUnescape(t *testing.T) {
	for s, want := range map[string]string{
		"": "", "a\\;b\\,c": "a;b,c", "a;b,c": "a;b,c", "\\\\": "\\", "\\n\\N": "\n\n", "\\\\n": "\\n", "\\\\\\;": "\\;", "\t\xff:": "\t\xff:",
	} {
		got, e := text.Unescape(s)
		answers(t, "Unescape", got, e, got == want)
	}
	for _, s := range unread() {
		got, e := text.Unescape(s)
		refused(t, "Unescape "+s, e, got == "")
	}
}

// P6.2

func TestList(t *testing.T) {
	for _, c := range []struct {
		want  string
		parts []string
	}{{"", []string{""}}, {",", []string{"", ""}}, {"a\\,b,c", []string{"a,b", "c"}}, {"\\;,\\n,\\\\", []string{";", "\n", "\\"}}} {
		got, e := text.List(c.parts...)
		answers(t, "List", got, e, got == c.want)
	}
	got, e := text.List()
	refused(t, "List of nothing", e, got == "")
	for _, s := range unwritten() {
		got, e := text.List("a", s, "b")
		refused(t, "List "+s, e, got == "")
	}
}

func TestUnlist(t *testing.T) {
	for _, c := range []struct {
		s    string
		want []string
	}{{"", []string{""}}, {",", []string{"", ""}}, {"a\\,b,c", []string{"a,b", "c"}}, {"a;b,\\;", []string{"a;b", ";"}}, {"\\\\,b", []string{"\\", "b"}}, {"\\\\\\,b,\\N", []string{"\\,b", "\n"}}} {
		got, e := text.Unlist(c.s)
		answers(t, "Unlist", got, e, slices.Equal(got, c.want))
	}
	for _, s := range unread() {
		for _, s := range []string{s, "a," + s, s + ",n"} {
			if s != "\\,n" && s != "\\\\\\,n" && s != "a\\,n" {
				got, e := text.Unlist(s)
				refused(t, "Unlist "+s, e, got == nil)
			}
		}
	}
}

// P6.3

func TestFields(t *testing.T) {
	for _, c := range []struct {
		want string
		rows [][]string
	}{
		{"", [][]string{nil}}, {"", [][]string{{}}}, {"", [][]string{{""}}}, {";", [][]string{nil, {""}}},
		{"x;;y,z", [][]string{{"x"}, {}, {"y", "z"}}}, {"a\\;b,\\,;,", [][]string{{"a;b", ","}, {"", ""}}},
	} {
		got, e := text.Fields(c.rows...)
		answers(t, "Fields", got, e, got == c.want)
	}
	got, e := text.Fields()
	refused(t, "Fields of nothing", e, got == "")
	for _, s := range unwritten() {
		got, e := text.Fields([]string{"a"}, []string{"b", s})
		refused(t, "Fields "+s, e, got == "")
	}
}

func TestUnfields(t *testing.T) {
	for _, c := range []struct {
		s    string
		want [][]string
	}{
		{"", [][]string{nil}}, {";", [][]string{nil, nil}}, {"x;;y,z", [][]string{{"x"}, nil, {"y", "z"}}},
		{"a\\;b,\\,;,", [][]string{{"a;b", ","}, {"", ""}}}, {"\\\\;\\n", [][]string{{"\\"}, {"\n"}}},
	} {
		got, e := text.Unfields(c.s)
		answers(t, "Unfields", got, e, sameRows(got, c.want))
	}
	for _, s := range unread() {
		got, e := text.Unfields("a;b," + s)
		refused(t, "Unfields "+s, e, got == nil)
	}
}

// P6.4 and P6.5

// dice are numbers that are the same in each run.
type dice uint64

func (d *dice) below(n int) int {
	*d = *d*6364136223846793005 + 1442695040888963407
	return int(uint64(*d)>>33) % n
}

func (d *dice) text(letters string) string {
	b := make([]byte, d.below(6))
	for i := range b {
		b[i] = letters[d.below(len(letters))]
	}
	return string(b)
}

func TestBack(t *testing.T) {
	for seed := range 3000 {
		d := dice(seed)
		var rows [][]string
		for range 1 + d.below(4) {
			var row []string
			for range d.below(4) {
				row = append(row, d.text("anN\\;,\n\t \xc3\xa9"))
			}
			if slices.Equal(row, []string{""}) {
				row = nil
			}
			rows = append(rows, row)
			if len(row) == 0 {
				continue
			}
			s, e := text.Escape(row[0])
			answers(t, "Escape", s, e, true)
			one, e := text.Unescape(s)
			answers(t, "Unescape of Escape", one, e, one == row[0])
			s, e = text.List(row...)
			answers(t, "List", s, e, true)
			l, e := text.Unlist(s)
			answers(t, "Unlist of List", l, e, slices.Equal(l, row))
		}
		s, e := text.Fields(rows...)
		answers(t, "Fields", s, e, true)
		got, e := text.Unfields(s)
		answers(t, "Unfields of Fields", got, e, sameRows(got, rows))
	}
}

func TestAgain(t *testing.T) {
	for seed := range 20000 {
		d := dice(seed)
		s := d.text("anN\\;,\\;,") + d.text("\\;,nN")
		one, e := text.Unescape(s)
		if e != nil {
			continue
		}
		s1, e := text.Escape(one)
		answers(t, "Escape", s1, e, true)
		again, e := text.Unescape(s1)
		answers(t, "Unescape", again, e, again == one)
		parts, e := text.Unlist(s)
		answers(t, "Unlist", parts, e, true)
		s2, e := text.List(parts...)
		answers(t, "List", s2, e, true)
		parts2, e := text.Unlist(s2)
		answers(t, "Unlist", parts2, e, slices.Equal(parts, parts2))
		rows, e := text.Unfields(s)
		answers(t, "Unfields", rows, e, true)
		s3, e := text.Fields(rows...)
		answers(t, "Fields", s3, e, true)
		rows2, e := text.Unfields(s3)
		answers(t, "Unfields", rows2, e, sameRows(rows, rows2))
	}
}
