package comp_test

import (
	"errors"
	"reflect"
	"strings"
	"testing"

	"calends/api"
	"calends/comp"
)

// text is rows as lines.
func text(rows ...string) string { return strings.Join(rows, "\r\n") + "\r\n" }

func parses(t *testing.T, s string, want ...api.Comp) {
	t.Helper()
	if l, e := comp.Parse(s); e != nil || !reflect.DeepEqual(l, want) {
		t.Fatalf("Parse(%.99q): %v, %v; want %v", s, l, e, want)
	}
}

func unparsed(t *testing.T, s string, at int, want api.Errno) {
	t.Helper()
	l, e := comp.Parse(s)
	var f *api.Fault
	if !errors.Is(e, want) || !errors.As(e, &f) || api.Place(e) != at || l != nil {
		t.Fatalf("Parse(%.99q): %v, %v; want %v at %d", s, l, e, want, at)
	}
}

func prints(t *testing.T, want string, l ...api.Comp) {
	t.Helper()
	if s, e := comp.Print(l...); e != nil || s != want {
		t.Fatalf("Print: %q, %v; want %q", s, e, want)
	}
}

func untold(t *testing.T, want api.Errno, l ...api.Comp) {
	t.Helper()
	if s, e := comp.Print(l...); !errors.Is(e, want) || api.Place(e) != 0 || s != "" {
		t.Fatalf("Print: %.99q, %v; want %v", s, e, want)
	}
}

func prop(name, value string) api.Prop { return api.Prop{Name: name, Value: value} }

// nest is so many components within one another.
func nest(n int) api.Comp {
	c := api.Comp{Name: "C"}
	if n > 1 {
		c.Comps = []api.Comp{nest(n - 1)}
	}
	return c
}

// P7.1

func TestParse(t *testing.T) {
	parses(t, "")
	parses(t, text("BEGIN:A", "END:A"), api.Comp{Name: "A"})
	b := api.Comp{Name: "B", Props: []api.Prop{prop("Z", "3")}}
	parses(t, text("BEGIN:a", "X:1", "BEGIN:b", "z:3", "END:B", "Y:2", "END:A"), api.Comp{Name: "A", Props: []api.Prop{prop("X", "1"), prop("Y", "2")}, Comps: []api.Comp{b}})
	parses(t, text("begin:b", "z:", " 3", "end:B", "", "BEGIN:C-9", "END:c-9"), b, api.Comp{Name: "C-9"})
	parses(t, text("BEGIN:A", "G.X;P=1:2", "BEGIN:B", "END:B", "BEGIN:B", "Z:3", "END:B", "END:A"), api.Comp{Name: "A", Props: []api.Prop{{Group: "G", Name: "X", Params: []api.Param{{Name: "P", Values: []string{"1"}}}, Value: "2"}}, Comps: []api.Comp{{Name: "B"}, b}})
	s, _ := comp.Print(nest(api.MaxDepth))
	parses(t, s, nest(api.MaxDepth))
}

func TestParseRefuses(t *testing.T) {
	unparsed(t, " a", 1, api.ErrForm)
	unparsed(t, text("BEGIN:A", strings.Repeat("x", api.MaxRow+1)), 2, api.ErrLong)
	unparsed(t, text("BEGIN:A", "", "X"), 3, api.ErrForm)
	unparsed(t, text("BEGIN:A", "X:1", "", " Y:2"), 4, api.ErrForm)
	unparsed(t, text("BEGIN:A", "X;P=1;P=2:1"), 2, api.ErrMany)
	unparsed(t, text("X:1"), 1, api.ErrForm)
	unparsed(t, text("END:A"), 1, api.ErrForm)
	unparsed(t, text("BEGIN:A", "END:A", "END:A"), 3, api.ErrForm)
	unparsed(t, text("BEGIN:A", "END:A", "X:1"), 3, api.ErrForm)
	for _, row := range []string{"G.BEGIN:B", "BEGIN;X=1:B", "BEGIN:", "BEGIN:B C", "BEGIN: B", "BEGIN:É", "G.END:A", "END;X=1:A", "END:", "END:A ", "END:B"} {
		unparsed(t, text("BEGIN:A", "X:1", " 2", row, "END:A"), 4, api.ErrForm)
	}
	unparsed(t, text("BEGIN:A", "BEGIN:B", "END:A", "END:B"), 3, api.ErrForm)
	deep := strings.Repeat("BEGIN:A\n", api.MaxDepth)
	unparsed(t, deep+"BEGIN:A\n", api.MaxDepth+1, api.ErrDeep)
	unparsed(t, deep+"BEGIN:A B\n", api.MaxDepth+1, api.ErrForm)
	unparsed(t, text("BEGIN:A", "X:1", "BEGIN:B", "BEGIN:C", "END:C", "Y:1"), 3, api.ErrForm)
	unparsed(t, text("", "BEGIN:A"), 2, api.ErrForm)
	unparsed(t, strings.Repeat("BEGIN:A\nEND:A\n", api.MaxRows/2)+"BEGIN:A", api.MaxRows+1, api.ErrMany)
}

// P7.2

func TestPrint(t *testing.T) {
	prints(t, "")
	prints(t, text("BEGIN:A", "Y:2", "X:1", "BEGIN:B", "Z:", "END:B", "END:A", "BEGIN:A", "END:A"),
		api.Comp{Name: "A", Props: []api.Prop{prop("Y", "2"), prop("X", "1")}, Comps: []api.Comp{{Name: "B", Props: []api.Prop{prop("Z", "")}}}}, api.Comp{Name: "A"})
	prints(t, text("BEGIN:A", "X:"+strings.Repeat("y", 73), " y", "END:A"), api.Comp{Name: "A", Props: []api.Prop{prop("X", strings.Repeat("y", 74))}})
	long := api.Comp{Name: strings.Repeat("N", api.MaxRow-6), Props: []api.Prop{prop("X", strings.Repeat("y", api.MaxRow-2))}}
	s, e := comp.Print(long)
	if e != nil {
		t.Fatal(e)
	}
	parses(t, s, long)
}

func TestPrintRefuses(t *testing.T) {
	for _, bad := range []api.Comp{
		{}, {Name: "a"}, {Name: "A B"}, {Name: "A.B"}, {Name: strings.Repeat("N", api.MaxRow-5)},
		{Name: "A", Props: []api.Prop{prop("X", "1"), prop("x", "1")}},
		{Name: "A", Props: []api.Prop{prop("X", "\n")}},
		{Name: "A", Props: []api.Prop{prop("X", strings.Repeat("y", api.MaxRow-1))}},
		{Name: "A", Props: []api.Prop{prop("BEGIN", "B")}},
		{Name: "A", Props: []api.Prop{prop("END", "A")}},
		{Name: "A", Comps: []api.Comp{{Name: "B"}, {Name: "b"}}},
	} {
		untold(t, api.ErrArg, bad)
		untold(t, api.ErrArg, api.Comp{Name: "A"}, nest(api.MaxDepth+1), api.Comp{Name: "A", Props: make([]api.Prop, 0), Comps: []api.Comp{bad}})
	}
	untold(t, api.ErrDeep, nest(api.MaxDepth), nest(api.MaxDepth+1))
	bad := nest(api.MaxDepth + 1)
	bad.Props = make([]api.Prop, api.MaxRows)
	untold(t, api.ErrArg, bad)
	for i := range bad.Props {
		bad.Props[i].Name = "X"
	}
	untold(t, api.ErrDeep, bad)
	full := api.Comp{Name: "A", Props: bad.Props[:api.MaxRows-2]}
	if s, e := comp.Print(full); e != nil || strings.Count(s, "\r\n") != api.MaxRows {
		t.Fatal(e)
	}
	untold(t, api.ErrMany, api.Comp{Name: "A", Props: bad.Props[:api.MaxRows-1]})
	untold(t, api.ErrMany, full, api.Comp{Name: "A"})
}

// P7.3

func looked() api.Comp {
	p := func(name, value string) api.Prop {
		return api.Prop{Name: name, Value: value, Params: []api.Param{{Name: "P", Values: []string{"v"}}}}
	}
	return api.Comp{Name: "A", Props: []api.Prop{p("X", "1"), p("Y", "2"), p("X", "3"), p("x", "4")}, Comps: []api.Comp{
		{Name: "B", Props: []api.Prop{p("X", "5")}, Comps: []api.Comp{{Name: "C"}}}, {Name: "C"}, {Name: "B"}, {Name: "b"},
	}}
}

func TestLooks(t *testing.T) {
	c := looked()
	if l := comp.All(c, "X"); !reflect.DeepEqual(l, []api.Prop{c.Props[0], c.Props[2]}) {
		t.Errorf("All: %v", l)
	}
	if l := comp.All(c, "Z"); len(l) != 0 {
		t.Errorf("All: %v", l)
	}
	if p, ok := comp.One(c, "x"); !ok || !reflect.DeepEqual(p, c.Props[3]) {
		t.Errorf("One: %v", p)
	}
	if p, ok := comp.One(c, "X"); !ok || p.Value != "1" {
		t.Errorf("One: %v", p)
	}
	if p, ok := comp.One(c, "C"); ok || !reflect.DeepEqual(p, api.Prop{}) {
		t.Errorf("One: %v", p)
	}
	if l := comp.Within(c, "B"); !reflect.DeepEqual(l, []api.Comp{c.Comps[0], c.Comps[2]}) {
		t.Errorf("Within: %v", l)
	}
	if l := comp.Within(c, "X"); len(l) != 0 {
		t.Errorf("Within: %v", l)
	}
	if n := comp.Rows(c, nest(3)); n != 17+6 {
		t.Errorf("Rows: %d", n)
	}
	if comp.Rows() != 0 {
		t.Error("Rows of nothing")
	}
}

func TestLooksShareNothing(t *testing.T) {
	c := looked()
	comp.All(c, "X")[0].Params[0].Values[0] = "z"
	p, _ := comp.One(c, "Y")
	p.Params[0].Name = "z"
	w := comp.Within(c, "B")
	w[0].Props[0].Params[0].Values[0], w[0].Comps[0].Name = "z", "z"
	if !reflect.DeepEqual(c, looked()) {
		t.Fatalf("%v", c)
	}
}

// P7.4 and P7.5

// dice are numbers that are the same in each run.
type dice uint64

func (d *dice) below(n int) int {
	*d = *d*6364136223846793005 + 1442695040888963407
	return int(uint64(*d)>>33) % n
}

func (d *dice) comp(deep int) api.Comp {
	c := api.Comp{Name: []string{"A", "B", "VEVENT"}[d.below(3)]}
	for range d.below(4) {
		p := prop([]string{"X", "Y-1"}[d.below(2)], strings.Repeat("é:^", d.below(50)))
		if d.below(2) == 0 {
			p.Params = []api.Param{{Name: "P", Values: []string{"a,b\n", "^"}}}
		}
		c.Props = append(c.Props, p)
	}
	for range d.below(3) {
		if deep > 1 {
			c.Comps = append(c.Comps, d.comp(deep-1))
		}
	}
	return c
}

func TestBack(t *testing.T) {
	for seed := range 500 {
		d := dice(seed)
		var l []api.Comp
		for range d.below(4) {
			l = append(l, d.comp(4))
		}
		s, e := comp.Print(l...)
		if e != nil {
			t.Fatal(e)
		}
		if strings.Count(s, "\n")-strings.Count(s, "\n ") != comp.Rows(l...) {
			t.Fatalf("Rows: %d", comp.Rows(l...))
		}
		parses(t, s, l...)
		// Small letters of names, and folds elsewhere, are read as the same.
		small := strings.NewReplacer("BEGIN:VEVENT", "begin:vevent", "END:", "eNd:", "X:", "x:", "X;P=", "X\r\n ;p=").Replace(s)
		parses(t, small, l...)
	}
}
