package bundle_test

import (
	"errors"
	"fmt"
	"slices"
	"strings"
	"testing"

	"calends/api"
	"calends/bundle"
	"calends/event"
)

func text(rows ...string) string {
	return strings.ReplaceAll(strings.Join(rows, "\n"), "\n", "\r\n") + "\r\n"
}

func field(name, value string) api.Field { return api.Field{Key: name, Value: value} }

// zone is the rows of one, so many hours ahead of Greenwich.
func zone(id string, hours int) string {
	return fmt.Sprintf("BEGIN:VTIMEZONE\nTZID:%s\nBEGIN:STANDARD\nDTSTART:19700101T000000\nTZOFFSETFROM:+0%d00\nTZOFFSETTO:+0%d00\nEND:STANDARD\nEND:VTIMEZONE", id, hours, hours)
}

// item is the rows of an entry's component.
func item(uid string, rows ...string) string {
	return strings.Join(slices.Concat([]string{"BEGIN:VEVENT", "UID:" + uid}, rows, []string{"END:VEVENT"}), "\n")
}

// calendar is a text of one with some rows.
func calendar(rows ...string) string {
	return text(slices.Concat([]string{"BEGIN:VCALENDAR", "VERSION:2.0"}, rows, []string{"END:VCALENDAR"})...)
}

const start = "DTSTART;VALUE=DATE:20000101"

// card is the text of one.
func card(uid string, rows ...string) string {
	return text(slices.Concat([]string{"BEGIN:VCARD", "VERSION:4.0", "UID:" + uid, "FN:A"}, rows, []string{"END:VCARD"})...)
}

func packs(t *testing.T, want string, l ...api.Field) {
	t.Helper()
	if s, e := bundle.Pack(l...); e != nil || s != want {
		t.Fatalf("Pack: %q, %v; want %q", s, e, want)
	}
}

func unpacked(t *testing.T, want api.Errno, at int, l ...api.Field) {
	t.Helper()
	if s, e := bundle.Pack(l...); !errors.Is(e, want) || api.Place(e) != at || s != "" {
		t.Fatalf("Pack: %q, %v; want %v at %d", s, e, want, at)
	}
}

func tells(t *testing.T, s string, want ...api.Field) {
	t.Helper()
	if l, e := bundle.Unpack(s); e != nil || !slices.Equal(l, want) {
		t.Fatalf("Unpack(%q): %q, %v; want %q", s, l, e, want)
	}
}

func untold(t *testing.T, s string, want api.Errno, at int) {
	t.Helper()
	if l, e := bundle.Unpack(s); !errors.Is(e, want) || api.Place(e) != at || l != nil {
		t.Fatalf("Unpack(%q): %q, %v; want %v at %d", s, l, e, want, at)
	}
}

// P25.1

func TestPack(t *testing.T) {
	packs(t, "")
	packs(t, calendar(item("a", start, "X-THING:one"), item("b", start, "X-THING:two")), field("one", calendar(item("a", start))), field("two", calendar(item("b", start))))
	packs(t, calendar(item("a", start, "SUMMARY:x", "X-THING:a\\,\\;\\\\\\nb"))+card("c", "NOTE:n", "X-THING:c")+card("c", "X-THING:d"),
		field("c", card("c", "NOTE:n")), field("a,;\\\nb", calendar(item("a", "summary:x", start))), field("d", card("c")))
}

func TestPackIntoTheFirstThatFits(t *testing.T) {
	a, b := calendar(item("a", start)), calendar(item("b", start))
	// One UID twice, then other properties, then what fits the first one and the second one.
	packs(t, calendar(item("a", start, "X-THING:1"), item("b", start, "X-THING:4"))+calendar(item("a", start, "X-THING:2"))+calendar("X-A:1", item("c", start, "X-THING:3"), item("a", start, "X-THING:5")),
		field("1", a), field("2", a), field("3", calendar("X-A:1", item("c", start))), field("4", b), field("5", calendar("X-A:1", item("a", start))))
	todo := strings.ReplaceAll(b, "VEVENT", "VTODO")
	packs(t, calendar(item("a", start, "X-THING:1"), strings.ReplaceAll(item("b", start, "X-THING:2"), "VEVENT", "VTODO")), field("1", a), field("2", todo))
	packs(t, calendar("X-A:1", "X-A:1", item("a", start, "X-THING:1"))+calendar("X-A:1", item("b", start, "X-THING:2")), field("1", calendar("X-A:1", "X-A:1", item("a", start))), field("2", calendar("X-A:1", item("b", start))))
}

func TestPackOfZones(t *testing.T) {
	in := func(uid, id string, zones ...string) string {
		return calendar(append(zones, item(uid, "DTSTART;TZID="+id+":20000101T000000"))...)
	}
	told := func(uid, id, name string) string {
		return item(uid, "DTSTART;TZID="+id+":20000101T000000", "X-THING:"+name)
	}
	packs(t, calendar(zone("Z", 1), zone("Y", 2), told("a", "Z", "1"), told("b", "Y", "2"), told("c", "Z", "3")),
		field("1", in("a", "Z", zone("X", 1), zone("Z", 1))), field("2", in("b", "Y", zone("Y", 2), zone("Z", 5))), field("3", in("c", "Z", zone("Z", 1))))
	packs(t, calendar(zone("Z", 1), told("a", "Z", "1"), told("c", "Z", "3"))+calendar(zone("Z", 2), told("b", "Z", "2")),
		field("1", in("a", "Z", zone("Z", 1))), field("2", in("b", "Z", zone("Z", 2))), field("3", in("c", "Z", zone("Z", 1))))
	// Zones that are used: by the start, an end, dates, instances that are others.
	for _, rows := range [][]string{
		{"DTSTART;TZID=Z:20000101T000000", "DTEND;TZID=Z:20000102T000000"}, {"DTSTART;TZID=Z:20000101T000000", "RDATE;TZID=Z:20000102T000000"},
		{start, "END:VEVENT", "BEGIN:VEVENT", "UID:a", "RECURRENCE-ID;VALUE=DATE:20000101", "DTSTART;TZID=Z:20000101T000000"},
	} {
		s, e := bundle.Pack(field("1", calendar(zone("Y", 1), zone("Z", 1), item("a", rows...))))
		if e != nil || !strings.Contains(s, "TZID:Z") || strings.Contains(s, "TZID:Y") {
			t.Fatalf("%q, %v", s, e)
		}
	}
}

func TestPackOfOver(t *testing.T) {
	over := item("a", "RECURRENCE-ID;VALUE=DATE:20000101", "DTSTART;VALUE=DATE:20000105")
	packs(t, calendar(item("b", start, "X-THING:0"), item("a", start, "X-THING:1"), over, item("c", start, "X-THING:2")), field("0", calendar(item("b", start))), field("1", calendar(over, item("a", start))), field("2", calendar(item("c", start))))
}

func TestPackRefuses(t *testing.T) {
	ok := calendar(item("a", start))
	many := slices.Repeat([]api.Field{field("", "")}, api.MaxThings+1)
	unpacked(t, api.ErrMany, 0, many...)
	unpacked(t, api.ErrArg, 1, many[1:]...)
	for _, name := range []string{"", strings.Repeat("x", api.MaxThing+1), "\r", "\x7f"} {
		unpacked(t, api.ErrArg, 2, field("1", ok), field(name, "x"), field("1", ok))
	}
	packs(t, calendar(item("a", start, "X-THING:"+strings.Repeat("x", api.MaxThing))), field(strings.Repeat("x", api.MaxThing), ok))
	unpacked(t, api.ErrThere, 3, field("1", ok), field("2", ok), field("1", "x"), field("", ""))
	over := item("a", "RECURRENCE-ID;VALUE=DATE:20000101", start, "X-THING:x")
	for _, s := range []string{"", "x", calendar(), card(""), calendar(item("a", start, "X-THING:x")), calendar(item("a", start, "x-thing;A=1:x")), calendar(item("a", start), over), card("a", "X-THING:x"), card("a", "G.X-THING:x")} {
		unpacked(t, api.ErrKind, 1, field("1", s))
	}
	packs(t, calendar("X-THING:x", item("a", start, "X-THING:1")), field("1", calendar("X-THING:x", item("a", start))))
	// Rows that are too many, of one and of all.
	var dates []string
	for n := range 100 {
		dates = append(dates, fmt.Sprintf("2001%02d%02d", 1+n/25, 1+n%25))
	}
	rows := []string{start, "RDATE;VALUE=DATE:" + strings.Join(dates[:50], ","), "RDATE;VALUE=DATE:" + strings.Join(dates[50:], ",")}
	big := calendar(item("a", append(rows, slices.Repeat([]string{"X:1"}, 100)...)...))
	for n := range 39 {
		big = strings.Replace(big, "END:VCALENDAR", fmt.Sprintf("BEGIN:VEVENT\r\nUID:a\r\nRECURRENCE-ID;VALUE=DATE:%04d0101\r\n%s\r\nEND:VEVENT\r\nEND:VCALENDAR", 2000+n, start+strings.Repeat("\r\nX:1", 16)), 1)
	}
	if o, e := event.Parse(big); e != nil {
		t.Fatal(e)
	} else if _, e := event.Print(o); !errors.Is(e, api.ErrMany) {
		t.Fatal(e)
	}
	unpacked(t, api.ErrKind, 2, field("1", ok), field("2", big))
	var all []api.Field
	for n := range 12 {
		all = append(all, field(fmt.Sprint(n), calendar(item(fmt.Sprint(n), append([]string{start}, slices.Repeat([]string{"X:1"}, 90)...)...))))
	}
	unpacked(t, api.ErrMany, 0, all...)
}

// P25.2

func TestUnpack(t *testing.T) {
	tells(t, "")
	tells(t, calendar())
	tells(t, calendar(zone("Z", 1)))
	tells(t, calendar(item("a", start), item("b", "summary:x", start)), field("a", calendar(item("a", start))), field("b", calendar(item("b", start, "SUMMARY:x"))))
	tells(t, card("d", "x-thing:c\\,\\nd")+calendar("X-A:1", item("a", start, "X-THING:1")), field("c,\nd", card("d")), field("1", calendar("X-A:1", item("a", start))))
	// Components of one UID are one thing, wherever they stand; its mark may be at any of them.
	over := item("a", "RECURRENCE-ID;VALUE=DATE:20000101", "DTSTART;VALUE=DATE:20000105")
	tells(t, calendar(strings.Replace(over, "END", "X-THING:1\nEND", 1), item("b", start), item("a", start, "X-THING:2")), field("1", calendar(item("a", start), over)), field("b", calendar(item("b", start))))
	// Which mark counts: the first one without a group and parameters that can be read; all are left off.
	tells(t, calendar(item("a", "G.X-THING:1", "X-THING;A=1:2", "X-THING:\\x", "X-THING:4", start, "X-THING:5")), field("4", calendar(item("a", start))))
	tells(t, calendar(item("a", start, "G.X-THING:1")), field("a", calendar(item("a", start))))
	tells(t, card("c", "X-THING;A=1:2", "X-THING:\\"), field("c", card("c")))
	// Two calendars with the same UID are two things.
	tells(t, calendar(item("a", start, "X-THING:1"))+calendar(item("a", start, "X-THING:2")), field("1", calendar(item("a", start))), field("2", calendar(item("a", start))))
	tells(t, calendar("X-THING:x", item("a", start)), field("a", calendar("X-THING:x", item("a", start))))
}

func TestUnpackOfZones(t *testing.T) {
	a, b := item("a", "DTSTART;TZID=Z:20000101T000000"), item("b", start, "END:VEVENT", "BEGIN:VEVENT", "UID:b", "RECURRENCE-ID;VALUE=DATE:20000101", "DTSTART;TZID=Y:20000101T000000")
	tells(t, calendar(zone("Z", 1), a, zone("Y", 2), b, zone("X", 3), item("c", start)), field("a", calendar(zone("Z", 1), a)), field("b", calendar(zone("Y", 2), b)), field("c", calendar(item("c", start))))
	// Parameters of other properties name no zone; two zones of one ID can't be read.
	tells(t, calendar(zone("Z", 1), item("a", start, "X;TZID=Z:1")), field("a", calendar(item("a", start, "X;TZID=Z:1"))))
	untold(t, calendar(item("b", start), zone("Z", 1), zone("Z", 1), a), api.ErrForm, 2)
	tells(t, calendar("X-A:1", zone("Z", 1), a, zone("Y", 9), strings.Replace(zone("Q", 9), "TZID", "X", 1)), field("a", calendar("X-A:1", zone("Z", 1), a)))
}

func TestUnpackRefuses(t *testing.T) {
	untold(t, "BEGIN:VCARD\n\nx", api.ErrForm, 3)
	untold(t, card("a")+"BEGIN:VEVENT\nEND:VEVENT\n", api.ErrKind, 0)
	untold(t, card("")+"BEGIN:X\nEND:X\n", api.ErrKind, 0)
	ok := item("a", start)
	for _, bad := range []string{item("b"), item("b", start, "DURATION:PT0S"), "BEGIN:VJOURNAL\nUID:b\nEND:VJOURNAL", "BEGIN:VEVENT\n" + start + "\nEND:VEVENT", item("b", "DTSTART;TZID=Z:20000101T000000"), item("b", start, "END:VEVENT", "BEGIN:VEVENT", "UID:b", start)} {
		untold(t, calendar(ok, bad, item("a2")), api.ErrForm, 2)
	}
	untold(t, strings.Replace(calendar(ok), "VERSION:2.0", "VERSION:1", 1), api.ErrForm, 1)
	untold(t, card("c")+strings.Replace(card("d"), "FN:A", "FN:", 1), api.ErrForm, 2)
	long := strings.Repeat("x", api.MaxThing+1)
	untold(t, card(long), api.ErrArg, 1)
	untold(t, calendar(ok, item(long, start)), api.ErrArg, 2)
	untold(t, card("c", "X-THING:"), api.ErrArg, 1)
	untold(t, card("c", "X-THING:"+long), api.ErrArg, 1)
	tells(t, card(long, "X-THING:1"), field("1", card(long)))
	untold(t, calendar(ok, item("b", start, "X-THING:a")), api.ErrThere, 2)
	untold(t, calendar(ok)+card("a"), api.ErrThere, 2)
	untold(t, strings.Replace(card(long), "FN:A", "FN:", 1), api.ErrForm, 1)
	var many, most string
	for n := range api.MaxThings {
		most += fmt.Sprintf("BEGIN:VCARD\nVERSION:4.0\nUID:%d\nFN:A\nEND:VCARD\n", n)
	}
	many = most + most
	if l, e := bundle.Unpack(most); e != nil || len(l) != api.MaxThings {
		t.Fatalf("%d, %v", len(l), e)
	}
	untold(t, many, api.ErrMany, api.MaxRows+1)
	var items []string
	for n := range api.MaxThings + 1 {
		items = append(items, item(fmt.Sprint(n), start))
	}
	untold(t, calendar(items...), api.ErrMany, 0)
	if l, e := bundle.Unpack(calendar(items[1:]...)); e != nil || len(l) != api.MaxThings {
		t.Fatalf("%d, %v", len(l), e)
	}
	// What is wrong with a thing is told ahead of that.
	untold(t, calendar(append(items, item("0x"))...), api.ErrForm, api.MaxThings+2)
}

// P25.3 and P25.4

// dice are numbers that are the same in each run.
type dice uint64

func (d *dice) below(n int) int {
	*d = *d*6364136223846793005 + 1442695040888963407
	return int(uint64(*d)>>33) % n
}

// thing is the text of one, as it is told, without zones that are not used, and one with them.
func (d *dice) thing() (string, string, bool) {
	if d.below(4) == 0 {
		s := card(fmt.Sprint(d.below(3)), slices.Repeat([]string{"NOTE:x"}, d.below(3))...)
		return s, s, false
	}
	uid := fmt.Sprint(d.below(4))
	extra := slices.Repeat([]string{"X-A:1"}, d.below(2))
	var rows []string
	for n := range d.below(3) {
		over := item(uid, fmt.Sprintf("RECURRENCE-ID;VALUE=DATE:2000010%d", 1+n), start)
		rows = append(rows, over)
	}
	var zones []string
	begin := start
	if len(rows) == 0 && d.below(2) == 0 {
		id := string(rune('X' + d.below(2)))
		zones = append(zones, zone(id, 1+d.below(2)))
		begin = "DTSTART;TZID=" + id + ":20000101T000000"
	}
	rows = append([]string{item(uid, begin, "SUMMARY:"+uid)}, rows...)
	return calendar(slices.Concat(extra, zones, rows)...), calendar(slices.Concat(extra, []string{zone("Q", 5)}, zones, rows)...), true
}

func TestBackInAnyOrder(t *testing.T) {
	for seed := range 600 {
		d := dice(seed)
		var l, want []api.Field
		for n := range d.below(8) {
			told, in, _ := d.thing()
			l = append(l, field(fmt.Sprint("n", n), in))
			want = append(want, field(fmt.Sprint("n", n), told))
		}
		for range 2 {
			s, e := bundle.Pack(l...)
			if e != nil {
				t.Fatal(e)
			}
			got, e := bundle.Unpack(s)
			if e != nil {
				t.Fatal(e)
			}
			// Cards come behind entries.
			cards := 0
			for _, f := range got {
				is := strings.HasPrefix(f.Value, "BEGIN:VCARD")
				if is {
					cards++
				} else if cards > 0 {
					t.Fatalf("play %d: an entry behind a card", seed)
				}
			}
			byName := func(a, b api.Field) int { return strings.Compare(a.Key, b.Key) }
			slices.SortFunc(got, byName)
			if !slices.Equal(got, want) {
				t.Fatalf("play %d: %q; want %q", seed, got, want)
			}
			slices.Reverse(l)
		}
	}
}
