package filter_test

import (
	"errors"
	"reflect"
	"slices"
	"strings"
	"testing"

	"calends/api"
	"calends/event"
	"calends/filter"
	"calends/when"
)

func at(s string) api.Time {
	t, e := when.Parse(s)
	if e != nil {
		panic(s)
	}
	return t
}

func all(kids ...api.Filter) api.Filter  { return api.Filter{Kind: api.FilterAll, Kids: kids} }
func some(kids ...api.Filter) api.Filter { return api.Filter{Kind: api.FilterAny, Kids: kids} }
func not(kids ...api.Filter) api.Filter  { return api.Filter{Kind: api.FilterNot, Kids: kids} }
func kind(name string) api.Filter        { return api.Filter{Kind: api.FilterKind, Name: name} }
func has(name string) api.Filter         { return api.Filter{Kind: api.FilterHas, Name: name} }

func text(name string, how int, s string) api.Filter {
	return api.Filter{Kind: api.FilterText, Name: name, How: how, Text: s}
}

func param(name, p string, how int, s string) api.Filter {
	return api.Filter{Kind: api.FilterParam, Name: name, Param: p, How: how, Text: s}
}

func between(from, to string) api.Filter {
	return api.Filter{Kind: api.FilterRange, From: at(from), To: at(to)}
}

// nest is a filter within so many others.
func nest(n int) api.Filter {
	if n == 0 {
		return has("X")
	}
	return not(nest(n - 1))
}

func prints(t *testing.T, f api.Filter, want string) {
	t.Helper()
	if s, e := filter.Print(f); e != nil || s != want || !filter.Right(f) {
		t.Fatalf("Print(%+v): %q, %v; want %q", f, s, e, want)
	}
}

func wrong(t *testing.T, f api.Filter) {
	t.Helper()
	if s, e := filter.Print(f); !errors.Is(e, api.ErrArg) || s != "" || filter.Right(f) {
		t.Fatalf("Print(%+v): %q, %v", f, s, e)
	}
	if m, e := filter.Match(f, "x"); !errors.Is(e, api.ErrArg) || m {
		t.Fatalf("Match(%+v): %v, %v", f, m, e)
	}
	if l, e := filter.Pick(f); !errors.Is(e, api.ErrArg) || l != nil {
		t.Fatalf("Pick(%+v): %v, %v", f, l, e)
	}
}

func parses(t *testing.T, s string, want api.Filter) {
	t.Helper()
	if f, e := filter.Parse(s); e != nil || !reflect.DeepEqual(f, want) {
		t.Fatalf("Parse(%q): %+v, %v; want %+v", s, f, e, want)
	}
}

func unparsed(t *testing.T, s string, want api.Errno) {
	t.Helper()
	f, e := filter.Parse(s)
	if !errors.Is(e, want) || api.Place(e) != 0 || !reflect.DeepEqual(f, api.Filter{}) {
		t.Fatalf("Parse(%.200q): %+v, %v; want %v", s, f, e, want)
	}
}

// P23.1

func TestPrint(t *testing.T) {
	prints(t, all(), "(and)")
	prints(t, some(has("A"), all(kind("VCARD"))), "(or (has A) (and (kind VCARD)))")
	prints(t, not(kind("VTODO")), "(not (kind VTODO))")
	prints(t, text("X-1", api.HowEquals, ""), `(text X-1 equals "")`)
	prints(t, text("A", api.HowContains, "a\"b\\c;d,e\nf(g) h\t"), `(text A contains "a\"b\\c\;d\,e\nf(g) h	")`)
	prints(t, param("TEL", "TYPE", api.HowStarts, "é"), `(param TEL TYPE starts "é")`)
	prints(t, text("A", api.HowEnds, strings.Repeat(";", 200)), `(text A ends "`+strings.Repeat(`\;`, 200)+`")`)
	prints(t, between("20000101T000000Z", "20000101T000001Z"), "(range 20000101T000000Z 20000101T000001Z)")
	prints(t, nest(7), strings.Repeat("(not ", 7)+"(has X)"+strings.Repeat(")", 7))
	prints(t, has(strings.Repeat("A", 40)), "(has "+strings.Repeat("A", 40)+")")
}

func TestWrongFilters(t *testing.T) {
	with := func(f api.Filter, change func(*api.Filter)) api.Filter {
		change(&f)
		return f
	}
	for _, f := range []api.Filter{
		{Kind: -1}, {Kind: 8}, all(has("")), some(has("a")), not(), not(has("A"), has("A")), not(has("a")), nest(8), all(nest(7)),
		kind(""), kind("vevent"), kind("VCALENDAR"), has(""), has("a"), has("A B"), has("A_B"), has(strings.Repeat("A", 41)),
		text("", 0, "x"), text("A", -1, "x"), text("A", 4, "x"), text("A", 0, "\r"), text("A", 0, strings.Repeat("x", 201)), param("", "B", 0, ""), param("A", "", 0, ""), param("A", "b", 0, ""), param("A", "B", 4, ""), param("A", "B", 0, "\x7f"),
		between("20000101T000000Z", "20000101T000000Z"), between("20000101T000001Z", "20000101T000000Z"), between("20000101T000000", "20000102T000000Z"), between("20000101T000000Z", "20000102"), {Kind: api.FilterRange}, {Kind: api.FilterRange, To: at("20000101T000000Z")}, {Kind: api.FilterRange, From: api.Time{UTC: true}, To: at("20000101T000000Z")},
		with(all(), func(f *api.Filter) { f.Name = "A" }), with(all(), func(f *api.Filter) { f.From = at("20000101T000000Z") }), with(has("A"), func(f *api.Filter) { f.Param = "A" }), with(has("A"), func(f *api.Filter) { f.How = 1 }), with(has("A"), func(f *api.Filter) { f.Text = "x" }), with(has("A"), func(f *api.Filter) { f.Kids = []api.Filter{has("A")} }),
		with(kind("VEVENT"), func(f *api.Filter) { f.Text = "x" }), with(text("A", 0, ""), func(f *api.Filter) { f.Param = "A" }), with(text("A", 0, ""), func(f *api.Filter) { f.To = at("20000101T000000Z") }), with(not(has("A")), func(f *api.Filter) { f.How = 1 }), with(between("20000101T000000Z", "20000102T000000Z"), func(f *api.Filter) { f.Name = "A" }),
		all(slices.Repeat([]api.Filter{has("A")}, api.MaxFilter)...),
	} {
		wrong(t, f)
	}
	if !filter.Right(all(slices.Repeat([]api.Filter{has("A")}, api.MaxFilter-1)...)) || !filter.Right(with(has("A"), func(f *api.Filter) { f.Kids = []api.Filter{} })) {
		t.Fatal("as many as there may be are not right")
	}
}

// P23.2

func TestParse(t *testing.T) {
	parses(t, "(and (has summary) (not (kind vtodo)))", all(has("SUMMARY"), not(kind("VTODO"))))
	parses(t, "   (AND   (Has summary  )  )  ", all(has("SUMMARY")))
	parses(t, "(and)", all())
	parses(t, "(or )", some())
	parses(t, `(text a CONTAINS "")`, text("A", api.HowContains, ""))
	parses(t, `(text a ends "a\"b\\c\;d\,e\n\Nf(g) h	;,é")`, text("A", api.HowEnds, "a\"b\\c;d,e\n\nf(g) h\t;,é"))
	parses(t, `(param  tel  type  Starts  "\\"  )`, param("TEL", "TYPE", api.HowStarts, "\\"))
	parses(t, `(param tel type equals "\\\"")`, param("TEL", "TYPE", api.HowEquals, "\\\""))
	parses(t, "(range 20000101T000000Z  20000102T000000Z)", between("20000101T000000Z", "20000102T000000Z"))
}

func TestParseRefusesOtherTexts(t *testing.T) {
	for _, s := range []string{
		"", " ", "and", "(", ")", "()", "( and)", "(and", "(and))", "(and) x", "(and)(and)", "(x)", "(and x)", "(and(has A))", "(and (has A)(has B))", "(not (has A)", "(has)", "(has )", "(has A B)", "(has (A))", "(has \"A\")", "(has\tA)", "(kind)", "(kind VEVENT VTODO)",
		"(text A)", "(text A equals)", `(text A like "x")`, `(text A equals x)`, `(text A equals"x")`, `(text A equals "x)`, `(text A equals "x" "y")`, `(text A equals "x"y)`, `(text A equals "\x")`, `(text A equals "\")`, `(text A equals "x\`, "(text A equals \"\n\")", "(text A equals \"\x7f\")", "(text A equals \"\x00\")", `(text equals "x")`,
		`(param A equals "x")`, `(param A B "x")`, "(range 20000101T000000Z)", "(range 20000101T000000Z x)", "(range 2000 20000101T000000Z)", "(range 20000101T000000Z 20000102T000000Z 20000103T000000Z)", "(range 20000101t000000z 20000102T000000Z)",
		"\t(and)", "(and)\n", "(and\x00)", "(and \x00)", "(kind X", "(has a_b) (",
	} {
		unparsed(t, s, api.ErrForm)
	}
}

func TestParseRefusesWrongFilters(t *testing.T) {
	for _, s := range []string{
		"(not)", "(not (has A) (has B))", "(kind X)", "(kind VCALENDAR)", "(has X_Y)", "(has é)", "(has " + strings.Repeat("A", 41) + ")", "(has a\tb)", "(and (kind X))", `(text a:b equals "x")`, `(param A b_c equals "x")`, `(text A equals "` + strings.Repeat("x", 201) + `")`,
		"(range 20000101T000000Z 20000101T000000Z)", "(range 20000101T000000Z 19990101T000000Z)", "(range 20000101 20000102)", "(range 20000101T000000 20000102T000000Z)", strings.Repeat("(not ", 8) + "(has X)" + strings.Repeat(")", 8), "(and" + strings.Repeat(" (has A)", 40) + ")",
		strings.Repeat("(not ", 800) + "(has X)" + strings.Repeat(")", 800),
	} {
		unparsed(t, s, api.ErrArg)
	}
	blanks := strings.Repeat(" ", api.MaxRow-5)
	parses(t, "(and)"+blanks, all())
	unparsed(t, "(and) "+blanks, api.ErrLong)
	unparsed(t, strings.Repeat("x", api.MaxRow+1), api.ErrLong)
}

// P23.3

func TestFits(t *testing.T) {
	for _, c := range []struct {
		how         int
		value, text string
		want        bool
	}{
		{api.HowEquals, "aB", "Ab", true}, {api.HowEquals, "ab", "abc", false}, {api.HowEquals, "É", "é", false}, {api.HowContains, "xAby", "aB", true}, {api.HowContains, "x", "", true}, {api.HowContains, "ab", "ba", false},
		{api.HowStarts, "ABc", "ab", true}, {api.HowStarts, "abc", "bc", false}, {api.HowEnds, "abC", "Bc", true}, {api.HowEnds, "abc", "ab", false}, {-1, "a", "a", false}, {4, "a", "a", false}, {api.HowEquals, "[", "{", false}, {api.HowEquals, "", "", true},
	} {
		if filter.Fits(c.how, c.value, c.text) != c.want {
			t.Errorf("Fits(%d, %q, %q): %v", c.how, c.value, c.text, !c.want)
		}
	}
}

// entry is the text of one.
func entry(rows ...string) string {
	return strings.Join(slices.Concat([]string{"BEGIN:VCALENDAR", "VERSION:2.0", "BEGIN:VEVENT", "UID:u"}, rows, []string{"END:VEVENT", "END:VCALENDAR"}), "\n")
}

const card = "BEGIN:VCARD\nVERSION:4.0\nUID:c\nFN:A\\, B\nTEL;TYPE=home,\"W:ork\";PREF=1:5\nEND:VCARD"

func matches(t *testing.T, want bool, s string, l ...api.Filter) {
	t.Helper()
	for _, f := range l {
		if got, e := filter.Match(f, s); e != nil || got != want {
			t.Fatalf("Match(%+v) of %q: %v, %v; want %v", f, s, got, e, want)
		}
	}
}

func unmatched(t *testing.T, f api.Filter, s string, want api.Errno) {
	t.Helper()
	if m, e := filter.Match(f, s); !errors.Is(e, want) || m {
		t.Fatalf("Match(%+v): %v, %v; want %v", f, m, e, want)
	}
}

func TestMatch(t *testing.T) {
	s := entry("DTSTART;VALUE=DATE:20000101", "SUMMARY:xAby", "NOTE;X=\"a,b\":a\\nb", "OTHER:\\x\\", "END:VEVENT", "BEGIN:VEVENT", "UID:u", "RECURRENCE-ID;VALUE=DATE:20000101", "DTSTART;VALUE=DATE:20000105", "LOCATION:here", "BEGIN:VALARM", "ACTION:AUDIO", "TRIGGER:PT0S", "END:VALARM")
	matches(t, true, s, kind("VEVENT"), has("SUMMARY"), has("LOCATION"), text("SUMMARY", api.HowContains, "ab"), text("NOTE", api.HowEquals, "A\nB"), text("OTHER", api.HowEquals, "\\x\\"), param("NOTE", "X", api.HowEquals, "A,B"), param("DTSTART", "VALUE", api.HowEquals, "date"), text("UID", api.HowEquals, "u"))
	matches(t, false, s, kind("VTODO"), kind("VCARD"), has("VERSION"), has("TZID"), has("ACTION"), has("FN"), text("SUMMARY", api.HowEquals, "ab"), text("NOTE", api.HowContains, "\\n"), text("X", api.HowContains, ""), param("NOTE", "Y", api.HowContains, ""), param("SUMMARY", "X", api.HowContains, ""))
	matches(t, true, card, kind("VCARD"), has("VERSION"), text("FN", api.HowEquals, "a, b"), param("TEL", "TYPE", api.HowEquals, "w:ORK"), param("TEL", "PREF", api.HowEquals, "1"))
	matches(t, false, card, kind("VEVENT"), has("N"), between("00010101T000000Z", "99991231T235959Z"))
	todo := strings.ReplaceAll(entry("DTSTART;VALUE=DATE:20000101"), "VEVENT", "VTODO")
	matches(t, true, todo, kind("VTODO"), has("DTSTART"))
	// Of texts that can't be read as entries or cards components are looked at all the same.
	matches(t, true, entry("SUMMARY:x"), has("SUMMARY"))
	matches(t, false, entry("SUMMARY:x"), between("00010101T000000Z", "99991231T235959Z"))
	matches(t, false, "BEGIN:VCALENDAR\nEND:VCALENDAR", has("X"), kind("VEVENT"))
	matches(t, true, "BEGIN:VCARD\nX:1\nEND:VCARD", has("X"), kind("VCARD"))
}

func TestMatchOfRanges(t *testing.T) {
	s := entry("DTSTART;VALUE=DATE:20000101", "RRULE:FREQ=YEARLY")
	matches(t, true, s, between("20000101T235959Z", "20000102T000000Z"), between("20040101T000000Z", "20040101T000001Z"))
	matches(t, false, s, between("20000102T000000Z", "20010101T000000Z"))
	daily := entry("DTSTART;VALUE=DATE:20000101", "RRULE:FREQ=DAILY")
	late := between("22000101T000000Z", "22000102T000000Z")
	unmatched(t, late, daily, api.ErrMany)
	unmatched(t, between("20000101T000000Z", "20500101T000000Z"), daily, api.ErrInstance)
	// Kids are looked at in order, and no further than is needed.
	unmatched(t, all(has("DTSTART"), late), daily, api.ErrMany)
	unmatched(t, not(late), daily, api.ErrMany)
	unmatched(t, some(late, has("DTSTART")), daily, api.ErrMany)
	matches(t, false, daily, all(has("X"), late))
	matches(t, true, daily, some(has("DTSTART"), late))
	if o, e := event.Parse(daily); e != nil || o.UID != "u" {
		t.Fatal(e)
	}
}

func TestMatchOfMany(t *testing.T) {
	yes, no := has("UID"), has("X")
	matches(t, true, card, all(), all(yes), all(yes, yes), some(yes), some(no, yes), not(no), not(some()))
	matches(t, false, card, all(no), all(yes, no), some(), some(no), not(yes), not(all()))
}

func TestMatchRefuses(t *testing.T) {
	for _, s := range []string{"", "x", "BEGIN:VCARD", card + "\n" + card, "BEGIN:VEVENT\nEND:VEVENT", "BEGIN:VTODO\nUID:u\nEND:VTODO"} {
		unmatched(t, all(), s, api.ErrKind)
	}
	unmatched(t, has(""), "", api.ErrArg)
}

// P23.4

func TestPick(t *testing.T) {
	f := func(key, value string) api.Field { return api.Field{Key: key, Value: value} }
	l := []api.Field{f("c", card), f("a", entry("DTSTART;VALUE=DATE:20000101")), f("x", "neither"), f("c", card), f("", card)}
	if got, e := filter.Pick(kind("VCARD"), l...); e != nil || !slices.Equal(got, []string{"c", "c", ""}) {
		t.Fatalf("%q, %v", got, e)
	}
	if got, e := filter.Pick(all(), l...); e != nil || !slices.Equal(got, []string{"c", "a", "c", ""}) {
		t.Fatalf("%q, %v", got, e)
	}
	if got, e := filter.Pick(some()); e != nil || len(got) != 0 {
		t.Fatalf("%q, %v", got, e)
	}
	daily := f("d", entry("DTSTART;VALUE=DATE:20000101", "RRULE:FREQ=DAILY"))
	if got, e := filter.Pick(between("22000101T000000Z", "22000102T000000Z"), append(l, daily)...); !errors.Is(e, api.ErrMany) || got != nil {
		t.Fatalf("%q, %v", got, e)
	}
}

// P23.5 to P23.7

// dice are numbers that are the same in each run.
type dice uint64

func (d *dice) below(n int) int {
	*d = *d*6364136223846793005 + 1442695040888963407
	return int(uint64(*d)>>33) % n
}

func (d *dice) filter(deep int) api.Filter {
	name, s := []string{"SUMMARY", "NOTE", "X"}[d.below(3)], []string{"", "a", "B\"", "x;\\", "\n"}[d.below(5)]
	switch d.below(8) {
	case 0:
		return kind([]string{"VEVENT", "VTODO", "VCARD"}[d.below(3)])
	case 1:
		return has(name)
	case 2:
		return text(name, d.below(4), s)
	case 3:
		return param(name, "X", d.below(4), s)
	case 4:
		return between("20000101T000000Z", "200"+string(rune('1'+d.below(3)))+"0101T000000Z")
	case 5:
		if deep > 0 {
			return not(d.filter(deep - 1))
		}
	}
	f := api.Filter{Kind: d.below(2)}
	for range d.below(3) {
		if deep > 0 {
			f.Kids = append(f.Kids, d.filter(deep-1))
		}
	}
	return f
}

func TestLaws(t *testing.T) {
	things := []string{card, entry("DTSTART;VALUE=DATE:20010505", "SUMMARY;X=a:b\\\"", "NOTE:xA"), entry("DTSTART;VALUE=DATE:20000505", "NOTE;X=\"x;b\":\\n")}
	for seed := range 3000 {
		d := dice(seed)
		f, g := d.filter(4), d.filter(4)
		s, e := filter.Print(f)
		if e != nil {
			t.Fatalf("%+v: %v", f, e)
		}
		parses(t, s, f)
		x := things[d.below(len(things))]
		yes, e1 := filter.Match(f, x)
		also, e2 := filter.Match(g, x)
		if e1 != nil || e2 != nil {
			t.Fatal(e1, e2)
		}
		matches(t, !yes, x, not(f))
		matches(t, yes || also, x, some(f, g), some(g, f), not(all(not(f), not(g))))
		matches(t, yes && also, x, all(f, g), all(g, f))
		if f.Kind == api.FilterText || f.Kind == api.FilterParam {
			f.Text = strings.ToUpper(f.Text)
			matches(t, yes, x, f)
		}
	}
}
