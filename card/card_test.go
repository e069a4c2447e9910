package card_test

import (
	"errors"
	"reflect"
	"slices"
	"strings"
	"testing"

	"calends/api"
	"calends/card"
	"calends/line"
)

func text(rows ...string) string { return strings.Join(rows, "\r\n") + "\r\n" }

// with is a card's text with some rows behind those that must be there.
func with(rows ...string) string {
	return text("BEGIN:VCARD", "VERSION:4.0", "UID:u", "FN:A") + text(append(rows, "END:VCARD")...)
}

func prop(row string) api.Prop {
	p, e := line.Parse(row)
	if e != nil {
		panic(row)
	}
	return p
}

// one is a contact with one text.
func one(s string) api.Contact { return api.Contact{Rows: [][]string{{s}}} }

// adr is an address with one text.
func adr(s string) api.Contact { return api.Contact{Rows: [][]string{{}, {}, {s}, {}, {}, {}, {}}} }

func base() api.Card { return api.Card{UID: "u", Name: "A"} }

func full() api.Card {
	return api.Card{UID: "u;1", Name: "A, B\n", Full: [][]string{{"B"}, {"A", "C"}, {}, {"Dr;"}, {}},
		Tels:   []api.Contact{{Group: "G", Rows: [][]string{{"5"}}}, {Types: []string{"home", "work"}, Pref: 1, Rows: [][]string{{"4"}}}, one("6")},
		Emails: []api.Contact{{Pref: 100, Rows: [][]string{{"a@b"}}}},
		Adrs:   []api.Contact{{Types: []string{"home"}, Rows: [][]string{{}, {}, {"Way 1", "x"}, {"T"}, {}, {}, {}}}},
		Extra:  []api.Prop{prop("NOTE:n"), prop("NOTE:n"), prop("X-A;B=1:2")}}
}

func fullText() string {
	return text("BEGIN:VCARD", "VERSION:4.0", "UID:u;1", "FN:A\\, B\\n", "N:B;A,C;;Dr\\;;", "G.TEL:5", "TEL;TYPE=home,work;PREF=1:4", "TEL:6", "EMAIL;PREF=100:a@b", "ADR;TYPE=home:;;Way 1,x;T;;;", "NOTE:n", "NOTE:n", "X-A;B=1:2", "END:VCARD")
}

// alike tells whether cards are, be empty lists nil or not.
func alike(a, b api.Card) bool {
	rows := func(x, y [][]string) bool {
		return slices.EqualFunc(x, y, func(p, q []string) bool { return slices.Equal(p, q) })
	}
	contacts := func(l, m []api.Contact) bool {
		return slices.EqualFunc(l, m, func(x, y api.Contact) bool {
			return x.Group == y.Group && slices.Equal(x.Types, y.Types) && x.Pref == y.Pref && rows(x.Rows, y.Rows)
		})
	}
	return a.UID == b.UID && a.Name == b.Name && rows(a.Full, b.Full) && contacts(a.Tels, b.Tels) && contacts(a.Emails, b.Emails) && contacts(a.Adrs, b.Adrs) &&
		slices.EqualFunc(a.Extra, b.Extra, func(p, q api.Prop) bool { return reflect.DeepEqual(p, q) })
}

func parses(t *testing.T, s string, want api.Card) {
	t.Helper()
	if c, e := card.Parse(s); e != nil || !alike(c, want) {
		t.Fatalf("Parse(%q): %+v, %v; want %+v", s, c, e, want)
	}
}

func unparsed(t *testing.T, s string, want api.Errno) {
	t.Helper()
	c, e := card.Parse(s)
	if !errors.Is(e, want) || api.Place(e) != 0 || !reflect.DeepEqual(c, api.Card{}) {
		t.Fatalf("Parse(%q): %+v, %v; want %v", s, c, e, want)
	}
}

// is tells whether a small card, changed, is right.
func is(t *testing.T, right bool, change func(*api.Card)) {
	t.Helper()
	c := base()
	change(&c)
	s, e := card.Print(c)
	if card.Right(c) != right || right != (e == nil) || !right && (!errors.Is(e, api.ErrArg) || s != "") {
		t.Fatalf("%+v: %v, %v; want %v", c, card.Right(c), e, right)
	}
}

// P15.1

func TestPrint(t *testing.T) {
	c := full()
	// By their rows, TEL:6 comes ahead of TEL;TYPE.
	s, e := card.Print(c)
	if e == nil {
		t.Fatalf("contacts that don't rise are told: %q", s)
	}
	c.Tels = []api.Contact{full().Tels[0], full().Tels[2], full().Tels[1]}
	want := strings.Replace(fullText(), "TEL;TYPE=home,work;PREF=1:4\r\nTEL:6\r\n", "TEL:6\r\nTEL;TYPE=home,work;PREF=1:4\r\n", 1)
	if s, e := card.Print(c); e != nil || s != want {
		t.Fatalf("%q, %v; want %q", s, e, want)
	}
	parses(t, want, c)
	parses(t, fullText(), c)
}

func TestRightOfNames(t *testing.T) {
	is(t, true, func(*api.Card) {})
	for uid, right := range map[string]bool{"": false, strings.Repeat("x", 100): true, strings.Repeat("x", 101): false, "a\n": false, "\x7f": false, "\t;": true} {
		is(t, right, func(c *api.Card) { c.UID = uid })
	}
	for name, right := range map[string]bool{"": false, "a\n\t;": true, "\r": false, "\x7f": false, strings.Repeat("x", api.MaxRow-3): true, strings.Repeat("x", api.MaxRow-2): false, strings.Repeat(",", api.MaxRow/2): false} {
		is(t, right, func(c *api.Card) { c.Name = name })
	}
	for _, n := range []int{0, 1, 4, 5, 6} {
		is(t, n == 0 || n == 5, func(c *api.Card) { c.Full = make([][]string, n) })
	}
	is(t, true, func(c *api.Card) { c.Full = [][]string{{"", ""}, {"a\n"}, {}, {}, {"x", ""}} })
	is(t, false, func(c *api.Card) { c.Full = [][]string{{""}, {"a"}, {}, {}, {}} })
	is(t, false, func(c *api.Card) { c.Full = [][]string{{"\r"}, {"a"}, {}, {}, {}} })
	is(t, false, func(c *api.Card) { c.Full = [][]string{{strings.Repeat("x", api.MaxRow)}, {}, {}, {}, {}} })
}

func TestRightOfContacts(t *testing.T) {
	kinds := []func(*api.Card, []api.Contact){
		func(c *api.Card, l []api.Contact) { c.Tels = l }, func(c *api.Card, l []api.Contact) { c.Emails = l }, func(c *api.Card, l []api.Contact) { c.Adrs = l },
	}
	for at, put := range kinds {
		some := one
		if at == 2 {
			some = adr
		}
		try := func(right bool, l ...api.Contact) {
			t.Helper()
			is(t, right, func(c *api.Card) { put(c, l) })
		}
		changed := func(right bool, change func(*api.Contact)) {
			t.Helper()
			x := some("a")
			change(&x)
			try(right, x)
		}
		try(true, some("a"), some("a"), some("b"))
		try(false, some("b"), some("a"))
		for n := range 2 {
			var l []api.Contact
			for range api.MaxContacts + n {
				l = append(l, some("a"))
			}
			try(n == 0, l...)
		}
		changed(true, func(x *api.Contact) { x.Group = "G-1" })
		changed(false, func(x *api.Contact) { x.Group = "g" })
		changed(true, func(x *api.Contact) { x.Types = []string{"-", "0", "9", "a", strings.Repeat("z", 20)} })
		changed(false, func(x *api.Contact) { x.Types = []string{"a", "b", "c", "d", "e", "f"} })
		changed(false, func(x *api.Contact) { x.Types = []string{strings.Repeat("c", 21)} })
		for _, l := range [][]string{{"A"}, {""}, {"a b"}, {"é"}, {"b", "a"}, {"a", "a"}, {"a_"}} {
			changed(false, func(x *api.Contact) { x.Types = l })
		}
		for n, right := range map[int]bool{-1: false, 0: true, 1: true, 100: true, 101: false} {
			changed(right, func(x *api.Contact) { x.Pref = n })
		}
		for _, rows := range [][][]string{nil, {{}}, {{""}}, {{"a"}, {"b"}}, {{"a", "b"}}, {{}, {}, {}, {}, {}, {}, {}, {}}} {
			changed(false, func(x *api.Contact) { x.Rows = rows })
		}
		changed(at == 2, func(x *api.Contact) { x.Rows = make([][]string, 7) })
		changed(at == 2, func(x *api.Contact) { x.Rows = [][]string{{"a", ""}, {}, {}, {}, {}, {}, {"\n;,"}} })
		changed(at != 2, func(x *api.Contact) { x.Rows = [][]string{{"\n;,"}} })
		changed(false, func(x *api.Contact) { x.Rows[len(x.Rows)/3] = []string{"\r"} })
		changed(false, func(x *api.Contact) { x.Rows[len(x.Rows)/3] = []string{strings.Repeat("x", api.MaxRow)} })
	}
}

func TestRightOfExtra(t *testing.T) {
	for _, name := range []string{"VERSION", "UID", "FN", "N", "TEL", "EMAIL", "ADR"} {
		is(t, false, func(c *api.Card) { c.Extra = []api.Prop{{Name: name, Value: "1"}} })
	}
	is(t, true, func(c *api.Card) { c.Extra = []api.Prop{prop("DTSTART:1"), prop("NOTE:1"), prop("NOTE:1")} })
	is(t, false, func(c *api.Card) { c.Extra = []api.Prop{prop("NOTE:2"), prop("NOTE:1")} })
	is(t, false, func(c *api.Card) { c.Extra = []api.Prop{{Name: "note"}} })
	is(t, false, func(c *api.Card) { c.Extra = []api.Prop{{Name: "BEGIN"}} })
	is(t, false, func(c *api.Card) { c.Extra = make([]api.Prop, api.MaxExtra+1) })
}

// P15.2

func TestParse(t *testing.T) {
	parses(t, "BEGIN:VCARD\nVERSION:4.0\nUID:u\nFN:A\\, B\nTEL;TYPE=Work,home;PREF=1:5\nEND:VCARD\n", api.Card{UID: "u", Name: "A, B", Tels: []api.Contact{{Types: []string{"home", "work"}, Pref: 1, Rows: [][]string{{"5"}}}}})
	parses(t, with("N:a;b"), api.Card{UID: "u", Name: "A", Full: [][]string{{"a"}, {"b"}, {}, {}, {}}})
	parses(t, with("N:"), api.Card{UID: "u", Name: "A", Full: make([][]string, 5)})
	parses(t, with("ADR:,a;\\;"), api.Card{UID: "u", Name: "A", Adrs: []api.Contact{{Rows: [][]string{{"", "a"}, {";"}, {}, {}, {}, {}, {}}}}})
	parses(t, with("TEL;type=B,a,b,A:x;y", "tel:1", "note:z", "a:1", "EMAIL;PREF=50:a,b"), api.Card{UID: "u", Name: "A",
		Tels: []api.Contact{one("1"), {Types: []string{"a", "b"}, Rows: [][]string{{"x;y"}}}}, Emails: []api.Contact{{Pref: 50, Rows: [][]string{{"a,b"}}}}, Extra: []api.Prop{prop("A:1"), prop("NOTE:z")}})
}

func TestParseRefusesOtherKinds(t *testing.T) {
	_, e := card.Parse("BEGIN:VCARD\n\n")
	if api.Place(e) != 1 || !errors.Is(e, api.ErrForm) {
		t.Fatal(e)
	}
	for _, s := range []string{"", with() + with(), strings.ReplaceAll(with(), "VCARD", "VCALENDAR"), with("BEGIN:X", "END:X"), "BEGIN:VCARD\nBEGIN:X\nEND:X\nEND:VCARD"} {
		unparsed(t, s, api.ErrKind)
	}
}

func TestParseRefusesOtherForms(t *testing.T) {
	for _, c := range [][2]string{{"VERSION:4.0", "VERSION:3.0"}, {"VERSION:4.0", "VERSION;X=1:4.0"}, {"VERSION:4.0", "G.VERSION:4.0"}, {"VERSION:4.0", "VERSION:4.0\r\nVERSION:4.0"}, {"VERSION:4.0\r\n", ""},
		{"UID:u\r\n", ""}, {"UID:u", "UID:u\r\nUID:u"}, {"UID:u", "G.UID:u"}, {"UID:u", "UID;X=1:u"}, {"FN:A\r\n", ""}, {"FN:A", "FN:A\r\nFN:A"}, {"FN:A", "G.FN:A"}, {"FN:A", "FN;X=1:A"}, {"FN:A", "FN:\\a"}} {
		unparsed(t, strings.Replace(with(), c[0], c[1], 1), api.ErrForm)
	}
	for _, rows := range [][]string{
		{"N:a", "N:a"}, {"G.N:a"}, {"N;X=1:a"}, {"N:;;;;;"}, {"N:\\"}, {"TEL;X=1:5"}, {"TEL;PREF=0:5"}, {"TEL;PREF=101:5"}, {"TEL;PREF=01:5"}, {"TEL;PREF=+1:5"}, {"TEL;PREF=1,2:5"}, {"TEL;PREF=:5"}, {"TEL;PREF=a:5"}, {"TEL;PREF=99999999999999999999:5"},
		{"TEL:\\a"}, {"EMAIL:\\"}, {"EMAIL;X=1:5"}, {"ADR:;;;;;;;"}, {"ADR:\\x"}, {"ADR;LABEL=x:a"},
		// What can't be read is told ahead of what is not right.
		{"TEL:", "EMAIL:\\"},
	} {
		unparsed(t, with(rows...), api.ErrForm)
	}
}

func TestParseRefusesWrongCards(t *testing.T) {
	unparsed(t, strings.Replace(with(), "UID:u", "UID:", 1), api.ErrArg)
	unparsed(t, strings.Replace(with(), "UID:u", "UID:"+strings.Repeat("x", 101), 1), api.ErrArg)
	unparsed(t, strings.Replace(with(), "FN:A", "FN:", 1), api.ErrArg)
	for _, row := range []string{"TEL:", "EMAIL:", "TEL;TYPE=:5", "TEL;TYPE=a b:5", "TEL;TYPE=1,2,3,4,5,6:5", strings.TrimSpace(strings.Repeat("TEL:1\r\n", api.MaxContacts+1)), strings.TrimSpace(strings.Repeat("X:1\r\n", api.MaxExtra+1))} {
		unparsed(t, with(row), api.ErrArg)
	}
	if c, e := card.Parse(with("TEL;TYPE=1,1,2,3,4,5,5:5", strings.TrimSpace(strings.Repeat("TEL:1\r\n", api.MaxContacts-1)))); e != nil || len(c.Tels) != api.MaxContacts {
		t.Fatal(e)
	}
}

// P15.3

func TestBest(t *testing.T) {
	x := func(s string, pref int) api.Contact {
		c := one(s)
		c.Pref, c.Types = pref, []string{"t"}
		return c
	}
	for _, c := range []struct {
		l    []api.Contact
		want string
	}{
		{[]api.Contact{x("a", 0), x("b", 0)}, "a"}, {[]api.Contact{x("a", 0), x("b", 5), x("c", 3), x("d", 3)}, "c"}, {[]api.Contact{x("a", -1), x("b", 100)}, "b"}, {[]api.Contact{x("a", 1), x("b", 1)}, "a"}, {[]api.Contact{x("a", -1), x("b", -2)}, "a"},
	} {
		got, ok := card.Best(c.l)
		if !ok || got.Rows[0][0] != c.want {
			t.Errorf("%v: %v, %v", c.l, got, ok)
		}
		got.Rows[0][0], got.Types[0] = "z", "z"
		if again, _ := card.Best(c.l); again.Rows[0][0] != c.want || again.Types[0] != "t" {
			t.Errorf("what was handed in has changed")
		}
	}
	if got, ok := card.Best(nil); ok || !reflect.DeepEqual(got, api.Contact{}) {
		t.Errorf("the best of nothing: %v", got)
	}
}

// P15.4 to P15.6

// dice are numbers that are the same in each run.
type dice uint64

func (d *dice) below(n int) int {
	*d = *d*6364136223846793005 + 1442695040888963407
	return int(uint64(*d)>>33) % n
}

func TestBackAgainAndInAnyOrder(t *testing.T) {
	all := []string{"N:a;b,c;;\\;", "TEL:1", "TEL:1", "TEL;TYPE=B,a:2", "g.TEL;PREF=7:x\\,", "EMAIL:c,d", "EMAIL;PREF=1;TYPE=q:e", "EMAIL;TYPE=q;PREF=1:e", "ADR:;;,x;y", "ADR:", "ADR;TYPE=HOME:a", "NOTE:1", "x-a;P=\"a,b\":2", "X-A:1"}
	for seed := range 1000 {
		d := dice(seed)
		var rows []string
		for _, row := range all {
			if d.below(2) == 0 {
				rows = append(rows, row)
			}
		}
		c, e := card.Parse(with(rows...))
		if e != nil {
			t.Fatalf("%q: %v", rows, e)
		}
		s, e := card.Print(c)
		if e != nil {
			t.Fatal(e)
		}
		parses(t, s, c)
		for i := range rows {
			j := d.below(i + 1)
			rows[i], rows[j] = rows[j], rows[i]
		}
		turned, _ := card.Parse(with(rows...))
		if again, e := card.Print(turned); e != nil || again != s {
			t.Fatalf("%q, %v; want %q", again, e, s)
		}
	}
}
