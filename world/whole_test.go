package world_test

import (
	"fmt"
	"reflect"
	"slices"
	"strings"
	"testing"
	"unicode/utf8"

	"calends/api"
	"calends/card"
	"calends/comp"
	"calends/device"
	"calends/event"
	"calends/fields"
	"calends/fold"
	"calends/merge"
	"calends/query"
	"calends/server"
	"calends/when"
)

// rich is an entry with all that there may be.
const rich = "BEGIN:VCALENDAR\nVERSION:2.0\nPRODID:é\nBEGIN:VTIMEZONE\nTZID:Z\nBEGIN:STANDARD\nDTSTART:19701025T030000\nTZOFFSETFROM:+0200\nTZOFFSETTO:+0100\nRRULE:FREQ=YEARLY;BYMONTH=10;BYDAY=-1SU\nEND:STANDARD\nBEGIN:DAYLIGHT\nDTSTART:19700329T020000\nTZOFFSETFROM:+0100\nTZOFFSETTO:+0200\nRRULE:FREQ=YEARLY;BYMONTH=3;BYDAY=-1SU\nEND:DAYLIGHT\nEND:VTIMEZONE\n" +
	"BEGIN:VEVENT\nUID:a\nDTSTART;TZID=Z:20000320T100000\nDURATION:PT2H\nRRULE:freq=daily;count=20\nEXDATE;TZID=Z:20000322T100000\nRDATE;TZID=Z:20000501T100000,20000502T100000\nSUMMARY:naïve 日本語 日本語 日本語 日本語 日本語 日本語 日本語 日本語 日本語 日本語\nATTENDEE:x\nATTENDEE:x\nBEGIN:VALARM\nACTION:AUDIO\nTRIGGER:-PT5M\nEND:VALARM\nEND:VEVENT\n" +
	"BEGIN:VEVENT\nUID:a\nRECURRENCE-ID;TZID=Z:20000323T100000\nDTSTART:20000401T100000Z\nSUMMARY:other\nEND:VEVENT\nEND:VCALENDAR\n"

const person = "BEGIN:VCARD\nVERSION:4.0\nUID:c\nFN:A\\, B\nN:B;A\nTEL;TYPE=Work,home;PREF=1:5\nADR:;;Way 1;Town\nNOTE:n\nEND:VCARD\n"

// instances are those that a text tells of some years.
func instances(t *testing.T, s string) []api.Inst {
	t.Helper()
	o, e := event.Parse(s)
	if e != nil {
		t.Fatal(e)
	}
	utc := api.Time{UTC: true}
	l, e := query.Instances(o, when.At(when.Seconds(api.Time{Day: api.Day{Year: 1999, Month: 1, Date: 1}}), utc), when.At(when.Seconds(api.Time{Day: api.Day{Year: 2002, Month: 1, Date: 1}}), utc))
	if e != nil || len(l) == 0 {
		t.Fatalf("%v, %v", l, e)
	}
	return l
}

// P0.1: what one device puts every replica lists as the same, once it has heard of it.
func TestTheSame(t *testing.T) {
	w := made(t, 400, 20000, 3)
	does(t, w, put(2, "e", rich), 0)
	does(t, w, put(3, "c", person), 0)
	does(t, w, step(api.StepSettle, 0, 0), 0)
	o, e := event.Parse(rich)
	c, f := card.Parse(person)
	if e != nil || f != nil {
		t.Fatal(e, f)
	}
	entryText, _ := event.Print(o)
	cardText, _ := card.Print(c)
	for dev := range 4 {
		lists(t, w, dev, field("c", cardText), field("e", entryText))
		got, e := event.Parse(w.Listing(dev)[1].Value)
		if e != nil || !reflect.DeepEqual(got, o) || !slices.Equal(instances(t, w.Listing(dev)[1].Value), instances(t, rich)) {
			t.Fatalf("%d has another entry: %v", dev, got)
		}
	}
}

// P0.2: what several devices do to different fields of a thing is done, all of it.
func TestAllFieldsAreDone(t *testing.T) {
	rows := []string{"DESCRIPTION:1", "LOCATION:2", "STATUS:CONFIRMED", "CLASS:PUBLIC", "PRIORITY:5", "X-A:6", "RRULE:FREQ=DAILY", "EXDATE;VALUE=DATE:20000102"}
	for seed := range 40 {
		d := dice(seed)
		w := made(t, 400, 20000, 8)
		does(t, w, put(1, "x", entry("a", "SUMMARY:s")), 0)
		does(t, w, step(api.StepSettle, 0, 0), 0)
		for at, row := range rows {
			does(t, w, put(at+1, "x", entry("a", row, "SUMMARY:s")), 0)
			if d.below(3) == 0 {
				does(t, w, step(api.StepPush, at+1, 0), 0)
			}
		}
		for w.Net() > 0 {
			does(t, w, step(api.StepDeliver, 0, d.below(9)), 0)
		}
		does(t, w, step(api.StepSettle, 0, 0), 0)
		all := slices.Concat(rows, []string{"SUMMARY:s"})
		o, e := event.Parse(entry("a", all...))
		want, f := event.Print(o)
		if e != nil || f != nil {
			t.Fatal(e, f)
		}
		for dev := range 9 {
			lists(t, w, dev, field("x", want))
		}
	}
}

// P0.3: replicas that have heard the same have the same, byte for byte, in whichever order they heard it.
func TestOneOutcome(t *testing.T) {
	for seed := range 150 {
		d := dice(seed)
		// What three devices push.
		var cells []api.Cell
		var texts []string
		for dev := 1; dev <= 3; dev++ {
			one := device.New(dev)
			for range 1 + d.below(4) {
				text := entry(string(rune('a'+d.below(2))), fmt.Sprintf("LOCATION:%d", d.below(3)), fmt.Sprintf("X-%d:1", d.below(3)))
				if e := one.Put(string(rune('x'+d.below(2))), text); e != nil {
					t.Fatal(e)
				}
			}
			cells = append(cells, one.State()...)
		}
		for range 4 {
			for at := range cells {
				other := d.below(at + 1)
				cells[at], cells[other] = cells[other], cells[at]
			}
			heard := device.New(4)
			for at := range cells {
				if !heard.Take(api.Reply{Kind: api.MsgPull, Dev: 4, Token: at + 1, Cells: cells[at : at+1]}) {
					t.Fatal("a reply is not taken")
				}
			}
			texts = append(texts, fmt.Sprint(heard.State(), heard.Listing()))
		}
		if slices.Sort(texts); texts[0] != texts[len(texts)-1] {
			t.Fatalf("play %d: %s and %s", seed, texts[0], texts[len(texts)-1])
		}
	}
}

// P0.4: all that is listed is lines as they must be, and is read as what it was.
func TestLines(t *testing.T) {
	w := made(t, 400, 20000, 1)
	long := entry("b", "DESCRIPTION:"+strings.Repeat("é日\U0001F600", 100), "X-A;P=\""+strings.Repeat("a;", 60)+"\":1")
	for name, text := range map[string]string{"e": rich, "c": person, "l": long} {
		does(t, w, put(1, name, text), 0)
	}
	does(t, w, step(api.StepSettle, 0, 0), 0)
	if len(w.Listing(0)) != 3 {
		t.Fatalf("%q", w.Listing(0))
	}
	for _, f := range w.Listing(0) {
		for _, line := range strings.SplitAfter(f.Value, "\r\n") {
			if row, ended := strings.CutSuffix(line, "\r\n"); !ended && line != "" || len(row) > api.MaxOctets || strings.ContainsAny(row, "\r\n") || !utf8.ValidString(row) {
				t.Fatalf("line %q", line)
			}
		}
		rows, e := fold.Unfold(f.Value)
		comps, e2 := comp.Parse(f.Value)
		if e != nil || e2 != nil || len(rows) != comp.Rows(comps...) {
			t.Fatalf("%q: %v, %v", f.Value, e, e2)
		}
		l, e := fields.Read(f.Value)
		if e != nil || !slices.Equal(l, merge.Fields(w.State(0), f.Key)) {
			t.Fatalf("%q is read as %q, %v", f.Value, l, e)
		}
	}
}

// P0.5: what the server answered is there behind every crash; beyond the quota nothing is kept; a token that was never issued tells all.
func TestKept(t *testing.T) {
	cells := func(dev, seq int) []api.Cell {
		return []api.Cell{{Thing: "x", Key: fmt.Sprint(seq), Value: strings.Repeat("v", 20), Stamp: seq, Dev: dev}}
	}
	for seed := range 100 {
		d := dice(seed)
		s, e := server.New(60, 700)
		if e != nil {
			t.Fatal(e)
		}
		var answered []api.Cell
		refused := 0
		for seq := 1; seq < 60; seq++ {
			if d.below(3) == 0 {
				s.Limit(d.below(6))
			}
			dev := 1 + d.below(2)
			r := s.Take(api.Msg{Kind: api.MsgPush, Dev: dev, Seq: seq, Cells: cells(dev, seq)})
			switch r.Err {
			case 0:
				answered = append(answered, cells(dev, seq)...)
			case api.ErrQuota:
				if slices.ContainsFunc(s.State(), func(c api.Cell) bool { return c.Stamp == seq }) {
					t.Fatalf("play %d: what is beyond the quota is kept", seed)
				}
				refused++
			}
			if !s.Up() || d.below(4) == 0 {
				if e := s.Crash(d.below(60), d.below(257), d.below(60), d.below(60), 0); e != nil {
					t.Fatal(e)
				}
			}
			s.Limit(-1)
			if !merge.Below(answered, s.State()) {
				t.Fatalf("play %d: what was answered is not there", seed)
			}
			used := 0
			for _, c := range s.State() {
				used += len(c.Thing) + len(c.Key) + len(c.Value)
			}
			if used > 700 {
				t.Fatalf("play %d: %d bytes are kept", seed, used)
			}
		}
		if refused == 0 {
			t.Fatalf("play %d: the quota was not reached", seed)
		}
		for _, token := range []int{999999, -1, 0} {
			r := s.Take(api.Msg{Kind: api.MsgPull, Dev: 3, Token: token})
			if r.Err != 0 || r.Base != 0 || !slices.Equal(r.Cells, s.State()) || len(r.Cells) == 0 {
				t.Fatalf("play %d: a token that was never issued: %v", seed, r)
			}
		}
	}
}
