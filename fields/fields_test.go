package fields_test

import (
	"errors"
	"slices"
	"strings"
	"testing"

	"calends/api"
	"calends/card"
	"calends/event"
	"calends/fields"
)

func text(rows ...string) string { return strings.Join(rows, "\r\n") + "\r\n" }

// calendar is a text of a calendar with some rows.
func calendar(rows ...string) string {
	return text(slices.Concat([]string{"BEGIN:VCALENDAR", "VERSION:2.0"}, rows, []string{"END:VCALENDAR"})...)
}

// with is a text of a calendar with some rows in its entry.
func with(rows ...string) string {
	return calendar(slices.Concat([]string{"BEGIN:VEVENT", "UID:a"}, rows, []string{"END:VEVENT"})...)
}

func zoneText(id string) string {
	return text("BEGIN:VTIMEZONE", "TZID:"+id, "BEGIN:STANDARD", "DTSTART:19700101T000000", "TZOFFSETFROM:+0100", "TZOFFSETTO:+0100", "END:STANDARD", "END:VTIMEZONE")
}

func field(key, value string) api.Field { return api.Field{Key: key, Value: value} }

// fullText is an entry with all that there may be, in the way in which it is told.
func fullText() string {
	return calendar("PRODID:p", "SUMMARY:c", "X-A:1", "X-A:1", zoneText("A")+strings.TrimSpace(zoneText("Z")),
		"BEGIN:VTODO", "UID:u;1", "DTSTART;TZID=Z:20000101T100000", "DUE;TZID=Z:20000101T110000", "RRULE:FREQ=DAILY;COUNT=5", "RDATE;TZID=Z:20000201T100000", "RDATE;TZID=Z:20000202T100000", "EXDATE;TZID=Z:20000103T100000", "G.LOCATION;X=1:x", "STATUS:y", "SUMMARY:1", "SUMMARY:2",
		"BEGIN:VALARM", "ACTION:AUDIO", "TRIGGER:PT0S", "END:VALARM", "BEGIN:VALARM", "ACTION:AUDIO", "TRIGGER:PT0S", "END:VALARM", "BEGIN:VALARM", "ACTION:DISPLAY", "TRIGGER:-PT5M", "DESCRIPTION:y", "END:VALARM", "END:VTODO",
		"BEGIN:VTODO", "UID:u;1", "RECURRENCE-ID;TZID=Z:20000102T100000", "DTSTART;VALUE=DATE:20000102", "DURATION:P1D", "END:VTODO",
		"BEGIN:VTODO", "UID:u;1", "RECURRENCE-ID;TZID=Z:20000104T100000", "DTSTART:20000104T100000Z", "SUMMARY:z", "X:1", "BEGIN:VALARM", "ACTION:EMAIL", "TRIGGER:PT1M", "END:VALARM", "END:VTODO")
}

func fullFields() []api.Field {
	return []api.Field{
		field("0kind", "VTODO"), field("0uid", "u;1"), field("1r/SUMMARY", "SUMMARY:c"), field("1x/PRODID:p", "1"), field("1x/X-A:1", "2"), field("1zone/A", zoneText("A")), field("1zone/Z", zoneText("Z")),
		field("2start", "DTSTART;TZID=Z:20000101T100000"), field("3end", "DUE;TZID=Z:20000101T110000"), field("4rule", "FREQ=DAILY;COUNT=5"), field("5rdate/20000201T100000", "1"), field("5rdate/20000202T100000", "1"), field("6exdate/20000103T100000", "1"),
		field("7r/LOCATION", "G.LOCATION;X=1:x"), field("7r/STATUS", "STATUS:y"), field("7x/SUMMARY:1", "1"), field("7x/SUMMARY:2", "1"),
		field("8alarm/"+text("BEGIN:VALARM", "ACTION:AUDIO", "TRIGGER:PT0S", "END:VALARM"), "2"), field("8alarm/"+text("BEGIN:VALARM", "ACTION:DISPLAY", "TRIGGER:-PT5M", "DESCRIPTION:y", "END:VALARM"), "1"),
		field("9over/20000102T100000/2start", "DTSTART;VALUE=DATE:20000102"), field("9over/20000102T100000/3end", "DURATION:P1D"),
		field("9over/20000104T100000/2start", "DTSTART:20000104T100000Z"), field("9over/20000104T100000/7r/SUMMARY", "SUMMARY:z"), field("9over/20000104T100000/7x/X:1", "1"), field("9over/20000104T100000/8alarm/"+text("BEGIN:VALARM", "ACTION:EMAIL", "TRIGGER:PT1M", "END:VALARM"), "1"),
	}
}

func cardText() string {
	return text("BEGIN:VCARD", "VERSION:4.0", "UID:u", "FN:A\\, B", "N:B;A;;;", "TEL:1", "TEL:1", "TEL;TYPE=home;PREF=1:2", "EMAIL:a@b", "ADR:;;,x;T;;;", "NOTE:n", "X-A:1", "END:VCARD")
}

func cardFields() []api.Field {
	return []api.Field{field("0kind", "VCARD"), field("0uid", "u"), field("2fn", "A, B"), field("3n", "B;A;;;"), field("4tel/TEL:1", "2"), field("4tel/TEL;TYPE=home;PREF=1:2", "1"), field("5email/EMAIL:a@b", "1"), field("6adr/ADR:;;,x;T;;;", "1"), field("7r/NOTE", "NOTE:n"), field("7x/X-A:1", "1")}
}

func reads(t *testing.T, s string, want ...api.Field) {
	t.Helper()
	if l, e := fields.Read(s); e != nil || !slices.Equal(l, want) {
		t.Fatalf("Read(%q): %q, %v; want %q", s, l, e, want)
	}
}

func builds(t *testing.T, want string, l ...api.Field) {
	t.Helper()
	if s, ok := fields.Build(l...); !ok || s != want {
		t.Fatalf("Build(%q): %q, %v; want %q", l, s, ok, want)
	}
}

func unbuilt(t *testing.T, l ...api.Field) {
	t.Helper()
	if s, ok := fields.Build(l...); ok || s != "" {
		t.Fatalf("Build(%q): %q", l, s)
	}
}

// P16.1

func TestRegister(t *testing.T) {
	for _, name := range []string{"SUMMARY", "DESCRIPTION", "LOCATION", "STATUS", "CLASS", "PRIORITY", "NOTE", "ORG", "TITLE"} {
		if !fields.Register(name) {
			t.Errorf("%s is no register", name)
		}
	}
	for _, name := range []string{"", "summary", "UID", "FN", "X-SUMMARY", "ATTENDEE"} {
		if fields.Register(name) {
			t.Errorf("%s is a register", name)
		}
	}
}

func TestRead(t *testing.T) {
	reads(t, with("DTSTART;VALUE=DATE:20000101", "SUMMARY:x"), field("0kind", "VEVENT"), field("0uid", "a"), field("2start", "DTSTART;VALUE=DATE:20000101"), field("7r/SUMMARY", "SUMMARY:x"))
	reads(t, fullText(), fullFields()...)
	reads(t, cardText(), cardFields()...)
	reads(t, with("DTSTART:20000101T000000", "DTEND:20000102T000000", "NOTE:1", "NOTE:1"), field("0kind", "VEVENT"), field("0uid", "a"), field("2start", "DTSTART:20000101T000000"), field("3end", "DTEND:20000102T000000"), field("7x/NOTE:1", "2"))
	reads(t, text("BEGIN:VCARD", "VERSION:4.0", "UID:u", "FN:A", "END:VCARD"), field("0kind", "VCARD"), field("0uid", "u"), field("2fn", "A"))
}

func TestReadRefuses(t *testing.T) {
	for _, c := range []struct {
		s    string
		want api.Errno
		at   int
	}{
		{"BEGIN:VCARD\n\nx", api.ErrForm, 3}, {"", api.ErrKind, 0}, {calendar(), api.ErrKind, 0}, {with(), api.ErrForm, 0}, {with("DTSTART:20000101T000000", "DURATION:PT0S"), api.ErrArg, 0},
		{"BEGIN:VCARD\nEND:VCARD", api.ErrForm, 0}, {text("BEGIN:VCARD", "VERSION:4.0", "UID:", "FN:A", "END:VCARD"), api.ErrArg, 0},
	} {
		l, e := fields.Read(c.s)
		if !errors.Is(e, c.want) || api.Place(e) != c.at || l != nil {
			t.Errorf("Read(%q): %v, %v; want %v at %d", c.s, l, e, c.want, c.at)
		}
	}
}

// P16.2

// small is the fields that must be there, and some more.
func small(more ...api.Field) []api.Field {
	return append([]api.Field{field("0kind", "VEVENT"), field("0uid", "a"), field("2start", "DTSTART;VALUE=DATE:20000101")}, more...)
}

const smallStart = "DTSTART;VALUE=DATE:20000101"

func TestBuildOfFields(t *testing.T) {
	builds(t, fullText(), fullFields()...)
	builds(t, cardText(), cardFields()...)
	builds(t, with(smallStart), small()...)
	l := fullFields()
	slices.Reverse(l)
	builds(t, fullText(), l...)
	// Of fields with the same key the first one counts.
	builds(t, with(smallStart, "SUMMARY:1"), small(field("7r/SUMMARY", "SUMMARY:1"), field("7r/SUMMARY", "SUMMARY:2"), field("0uid", "b"))...)
	builds(t, with(smallStart), small(field("7r/SUMMARY", "x"), field("7r/SUMMARY", "SUMMARY:2"))...)
}

func TestBuildNeedsTheBeginning(t *testing.T) {
	unbuilt(t)
	for at, l := range [][]api.Field{small(), small(), small(), small(), small(), small(), small(), small(), small(), small()} {
		switch at {
		case 0, 1, 2:
			l = slices.Delete(l, at, at+1)
		case 3:
			l[0].Value = "VJOURNAL"
		case 4:
			l[1].Value = strings.Repeat("x", 101)
		case 5:
			l[2].Value = "DTSTART:20000101"
		case 6:
			l[2].Value = "DTSTART;TZID=Z:20000101T000000"
		case 7:
			l[2].Value = "G.DTSTART;VALUE=DATE:20000101"
		case 8:
			l[2].Value = "DTEND;VALUE=DATE:20000101"
		case 9:
			l[2].Value = "DTSTART;VALUE=DATE:20000101\r\nSUMMARY:x"
		}
		unbuilt(t, l...)
	}
	for at := range 3 {
		unbuilt(t, slices.Delete(cardFields(), at, at+1)...)
	}
	unbuilt(t, field("0kind", "VCARD"), field("0uid", "u"), field("2fn", "\r"))
	unbuilt(t, field("0kind", "VCARD"), field("0uid", "\n"), field("2fn", "A"))
	// The start is what event.Parse reads.
	builds(t, with(smallStart), field("0kind", "VEVENT"), field("0uid", "a"), field("2start", "dtstart;value=\"DATE\":20000101"))
}

func TestBuildOfZones(t *testing.T) {
	start := field("2start", "DTSTART;TZID=Z:20000101T000000")
	begin := []api.Field{field("0kind", "VEVENT"), field("0uid", "a"), start}
	rows := []string{"BEGIN:VEVENT", "UID:a", start.Value, "END:VEVENT"}
	zones := func(ids ...string) (s string) {
		for _, id := range ids {
			s += zoneText(id)
		}
		return strings.TrimSpace(s)
	}
	builds(t, calendar(append([]string{zones("Z")}, rows...)...), append(begin, field("1zone/Z", zoneText("Z")))...)
	// Others than text as told are read, too; but not those with another ID, or that zone.Read refuses.
	other := strings.ReplaceAll(strings.ReplaceAll(zoneText("Z"), "\r\n", "\n"), "TZID:Z", "X-B:1\nTZID;X=1:Z")
	builds(t, calendar(append([]string{zones("Z")}, rows...)...), append(begin, field("1zone/Z", other), field("1zone/Y", zoneText("Z")), field("1zone/X", zoneText("X")+zoneText("X")), field("1zone/W", "x"), field("1zone/V", ""))...)
	unbuilt(t, append(begin, field("1zone/Z", zoneText("Y")))...)
	// As many as there may be, by rising keys; then the start has no zone.
	var l []api.Field
	for _, id := range []string{"Z", "E", "D", "C", "B", "A"} {
		l = append(l, field("1zone/"+id, zoneText(id)))
	}
	unbuilt(t, append(begin, l...)...)
	builds(t, calendar(append([]string{zones("B", "C", "D", "E", "Z")}, rows...)...), append(begin, l[:5]...)...)
}

func TestBuildPassesOver(t *testing.T) {
	alarm := text("BEGIN:VALARM", "ACTION:AUDIO", "TRIGGER:PT0S", "END:VALARM")
	for _, f := range []api.Field{
		field("", "x"), field("x", "x"), field("0", ""), field("0kindx", "VEVENT"), field("2", "x"), field("2fn", "A"), field("3n", "a"), field("4tel/TEL:1", "1"), field("1zone/", zoneText("Z")), field("1zone/Y", zoneText("Z")),
		field("3end", "DTEND:20000102T000000"), field("3end", "DTEND;VALUE=DATE:20000101"), field("3end", "DUE;VALUE=DATE:20000102"), field("3end", "dtend;VALUE=DATE:20000102"), field("3end", "DURATION:PT1H"), field("3end", "DURATION:PT24H"), field("3end", "DURATION:+P1D"), field("3end", "DURATION;X=1:P1D"), field("3end", "G.DURATION:P1D"), field("3end", "SUMMARY:x"), field("3end", ""), field("3end/", "DURATION:P1D"),
		field("4rule", "freq=daily"), field("4rule", "FREQ=DAILY;INTERVAL=1"), field("4rule", "FREQ=HOURLY"), field("4rule", ""), field("4rule", "FREQ=DAILY;COUNT=0"),
		field("5rdate/20000102", ""), field("5rdate/20000102", "2"), field("5rdate/20000102T000000", "1"), field("5rdate/2000", "1"), field("5rdate/", "1"), field("6exdate/20000102", "x"), field("6exdate/20000102Z", "1"),
		field("7r/SUMMARY", "summary:x"), field("7r/SUMMARY", "LOCATION:x"), field("7r/SUMMARY", "SUMMARY;X=\"a\":x"), field("7r/X-A", "X-A:1"), field("7r/", ""), field("7r/summary", "SUMMARY:x"), field("7/SUMMARY", "SUMMARY:x"),
		field("7x/X:1", ""), field("7x/X:1", "0"), field("7x/X:1", "101"), field("7x/X:1", "01"), field("7x/X:1", "+1"), field("7x/X:1", "-1"), field("7x/x:1", "1"), field("7x/X", "1"), field("7x/", "1"), field("7x/UID:b", "1"), field("7x/DTSTART:20000101T000000", "1"), field("7x/BEGIN:VALARM", "1"), field("7x/END:VEVENT", "1"),
		field("1x/VERSION:2.0", "1"), field("1x/X:1", "x"), field("1r/X:1", "1"),
		field("8alarm/"+alarm, "0"), field("8alarm/"+alarm, "11"), field("8alarm/"+alarm, ""), field("8alarm/"+strings.ReplaceAll(alarm, "\r\n", "\n"), "1"), field("8alarm/"+strings.ReplaceAll(alarm, "AUDIO", "X"), "1"), field("8alarm/"+strings.ReplaceAll(alarm, "PT0S", "-PT0S"), "1"), field("8alarm/"+alarm+alarm, "1"), field("8alarm/x", "1"), field("8alarm/", "1"), field("8alarm/"+text("BEGIN:VALARM", "END:VALARM"), "1"), field("8alarm/"+text("BEGIN:X", "ACTION:AUDIO", "TRIGGER:PT0S", "END:X"), "1"),
		field("9over/20000102", smallStart), field("9over/20000102/", smallStart), field("9over/20000102/2startx", smallStart), field("9over/2000/2start", smallStart), field("9over/20000102T000000/2start", smallStart), field("9over/20000102/2start", "x"), field("9over/20000102/2start", "dtstart;VALUE=DATE:20000102"), field("9over/20000102/7r/SUMMARY", "SUMMARY:x"), field("9over/20000102/2start", "DTSTART;TZID=Z:20000101T000000"),
	} {
		builds(t, with(smallStart), small(f)...)
	}
	over := field("9over/20000102/2start", smallStart)
	want := with(smallStart, "END:VEVENT", "BEGIN:VEVENT", "UID:a", "RECURRENCE-ID;VALUE=DATE:20000102", smallStart)
	builds(t, want, small(over)...)
	for _, f := range []api.Field{field("9over/20000102/4rule", "FREQ=DAILY"), field("9over/20000102/5rdate/20000103", "1"), field("9over/20000102/6exdate/20000103", "1"), field("9over/20000102/0kind", "VEVENT"), field("9over/20000102/1x/X:1", "1"), field("9over/20000103/7x/X:1", "1")} {
		builds(t, want, small(over, f)...)
	}
	for _, f := range []api.Field{field("3n", ""), field("3n", "a"), field("3n", "\\"), field("3n", "a;b;c;d;e;f"), field("4tel/TEL:1", "0"), field("4tel/TEL:1", "21"), field("4tel/tel:1", "1"), field("4tel/EMAIL:1", "1"), field("4tel/TEL:", "1"), field("4tel/TEL;TYPE=b,a:1", "1"), field("4tel/TEL;TYPE=A:1", "1"), field("4tel/TEL;PREF=1;TYPE=a:1", "1"), field("4tel/TEL:a,b", "1"), field("6adr/ADR:a", "1"), field("7x/TEL:1", "1"), field("2start", smallStart), field("5rdate/20000101", "1"), field("9over/20000101/2start", smallStart)} {
		builds(t, text("BEGIN:VCARD", "VERSION:4.0", "UID:u", "FN:A", "END:VCARD"), field("0kind", "VCARD"), field("0uid", "u"), field("2fn", "A"), f)
	}
}

func TestBuildKeepsOrder(t *testing.T) {
	builds(t, with(smallStart, "DTEND;VALUE=DATE:20000105", "RDATE;VALUE=DATE:20000102", "RDATE;VALUE=DATE:20000103", "A:1", "A:1", "SUMMARY:x", "Z:1"),
		small(field("7x/Z:1", "1"), field("7r/SUMMARY", "SUMMARY:x"), field("7x/A:1", "2"), field("5rdate/20000103", "1"), field("5rdate/20000102", "1"), field("3end", "DTEND;VALUE=DATE:20000105"))...)
	many := func(n string) []api.Field { return small(field("7x/A:1", n), field("7x/B:1", "1")) }
	hundred := slices.Repeat([]string{"A:1"}, 100)
	builds(t, with(append([]string{smallStart}, hundred...)...), many("100")...)
	builds(t, with(append([]string{smallStart}, append(hundred[:99:99], "B:1")...)...), many("99")...)
}

func TestBuildOfMoreRowsThanThereMayBe(t *testing.T) {
	l := small()
	for n := range 50 {
		key := "9over/20" + string([]byte{byte('0' + n/10), byte('0' + n%10)}) + "0101/"
		l = append(l, field(key+"2start", smallStart), field(key+"7x/X:1", "20"))
	}
	unbuilt(t, l...)
}

// P16.3 to P16.5

// dice are numbers that are the same in each run.
type dice uint64

func (d *dice) below(n int) int {
	*d = *d*6364136223846793005 + 1442695040888963407
	return int(uint64(*d)>>33) % n
}

func TestAgainAndInAnyOrder(t *testing.T) {
	for seed := range 400 {
		d := dice(seed)
		l := [][]api.Field{fullFields(), cardFields(), small()}[d.below(3)]
		// Some fields go, some are taken from elsewhere, some are spoilt.
		for range d.below(6) {
			if len(l) == 0 {
				break
			}
			at := d.below(len(l))
			switch d.below(3) {
			case 0:
				l = slices.Delete(l, at, at+1)
			case 1:
				other := fullFields()[2+d.below(len(fullFields())-2)]
				if !slices.ContainsFunc(l, func(f api.Field) bool { return f.Key == other.Key }) {
					l = append(l, other)
				}
			case 2:
				l[at].Value += "x"
			}
		}
		s, ok := fields.Build(l...)
		for i := range l {
			j := d.below(i + 1)
			l[i], l[j] = l[j], l[i]
		}
		if turned, again := fields.Build(l...); turned != s || again != ok {
			t.Fatalf("play %d: %q; want %q", seed, turned, s)
		}
		if !ok {
			continue
		}
		read, e := fields.Read(s)
		if e != nil || read[0].Key != "0kind" || read[1].Key != "0uid" || !slices.Contains(l, read[0]) || !slices.Contains(l, read[1]) {
			t.Fatalf("play %d: Read(%q): %q, %v", seed, s, read, e)
		}
		builds(t, s, read...)
		if read[0].Value == "VCARD" {
			if _, e := card.Parse(s); e != nil {
				t.Fatal(e)
			}
		} else if _, e := event.Parse(s); e != nil {
			t.Fatal(e)
		}
	}
}

// pick is some of some texts, in whatever order, some of them twice.
func (d *dice) pick(all ...string) []string {
	var l []string
	for range d.below(6) {
		l = append(l, all[d.below(len(all))])
	}
	return l
}

// entry is the text of one of many kinds, not always one that is right.
func (d *dice) entry() string {
	kind := []string{"VEVENT", "VTODO"}[d.below(2)]
	start := []string{"DTSTART;VALUE=DATE:20000101", "DTSTART:20000101T100000", "DTSTART:20000101T100000Z", "DTSTART;TZID=Z:20000101T100000"}[d.below(4)]
	of := strings.NewReplacer("DTSTART", "RDATE", "20000101", "20000105").Replace(start)
	rows := d.pick("SUMMARY:x", "SUMMARY:y", "g.location;X=\"a;b\":^", "NOTE:1", "x-a:1", "X-A:1", "DESCRIPTION;P=^n:\\n", "ATTENDEE;CN=\"A, B\":c")
	if d.below(2) == 0 {
		rows = append(rows, of, strings.Replace(of, "RDATE", "EXDATE", 1), strings.NewReplacer("RDATE", "EXDATE", "20000105", "20000103").Replace(of))
	}
	rows = append(rows, [][]string{nil, {"DURATION:P1D"}, {strings.NewReplacer("DTSTART", "DTEND", "20000101", "20000102").Replace(start)}, {strings.NewReplacer("DTSTART", "DUE", "20000101", "20000102").Replace(start)}}[d.below(4)]...)
	rows = append(rows, [][]string{nil, {"RRULE:freq=daily;count=5"}, {"RRULE:BYDAY=MO,-1FR;FREQ=MONTHLY"}}[d.below(3)]...)
	for range d.below(3) {
		rows = append(rows, text("BEGIN:VALARM", "action:AUDIO", "TRIGGER:"+[]string{"PT0S", "-P7D", "+PT60M"}[d.below(3)], strings.Join(d.pick("X:1", "SUMMARY:2"), "\r\n"), "END:VALARM"))
	}
	rows = slices.Concat([]string{start}, rows)
	for n := range d.below(3) {
		recur := strings.NewReplacer("DTSTART", "RECURRENCE-ID", "20000101", "2000010"+string(rune('2'+n))).Replace(start)
		other := []string{"DTSTART;VALUE=DATE:20000107", "DTSTART;TZID=A:20000107T100000", start}[d.below(3)]
		rows = slices.Concat(rows, []string{"END:" + kind, "BEGIN:" + kind, "UID:a", recur, other}, d.pick("SUMMARY:x", "LOCATION:y", "X:1"))
	}
	s := with(rows...)
	s = strings.Replace(s, "BEGIN:VEVENT", strings.Join(d.pick("X-B:1", "SUMMARY:c", "PRODID:p"), "\r\n")+"\r\n"+zoneText("Z")+zoneText("A")+"BEGIN:VEVENT", 1)
	return strings.ReplaceAll(s, "VEVENT", kind)
}

// P16.3 and P16.4: what is read and built is read as the same, and is an entry of the same kind and UID.
func TestAgainOfManyEntries(t *testing.T) {
	read := 0
	for seed := range 4000 {
		d := dice(seed)
		s := d.entry()
		l, e := fields.Read(s)
		if e != nil {
			if _, e2 := event.Parse(s); !errors.Is(e2, errorOf(e)) {
				t.Fatalf("%q: %v; want %v", s, e, e2)
			}
			continue
		}
		read++
		if !slices.IsSortedFunc(l, func(a, b api.Field) int { return strings.Compare(a.Key, b.Key) }) {
			t.Fatalf("keys do not rise: %q", l)
		}
		built, ok := fields.Build(l...)
		if !ok {
			t.Fatalf("%q is not built", l)
		}
		reads(t, built, l...)
		o, _ := event.Parse(s)
		again, e := event.Parse(built)
		if e != nil || o.Kind != again.Kind || o.UID != again.UID || len(o.Over) != len(again.Over) || len(o.Main.Alarms) != len(again.Main.Alarms) || len(o.Main.Extra) != len(again.Main.Extra) {
			t.Fatalf("%q is built as %q", s, built)
		}
	}
	if read < 1000 {
		t.Fatalf("only %d are read", read)
	}
}

// errorOf is an error's number.
func errorOf(e error) api.Errno {
	var n api.Errno
	errors.As(e, &n)
	return n
}
