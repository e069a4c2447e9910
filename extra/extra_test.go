package extra_test

import (
	"strings"
	"testing"

	"calends/api"
	"calends/extra"
)

func prop(name, value string) api.Prop { return api.Prop{Name: name, Value: value} }

func TestRow(t *testing.T) {
	if row, ok := extra.Row(prop("A", strings.Repeat("x", api.MaxRow-2))); !ok || len(row) != api.MaxRow {
		t.Fatal("the longest row may not stand")
	}
	for _, p := range []api.Prop{{}, prop("a", ""), prop("BEGIN", ""), prop("END", ""), prop("A", "\n"), prop("A", strings.Repeat("x", api.MaxRow-1))} {
		if row, ok := extra.Row(p); ok || row != "" {
			t.Fatalf("%.99v may stand", p)
		}
	}
}

func TestRight(t *testing.T) {
	not := func(name string) bool { return name == "N" }
	for _, l := range [][]api.Prop{nil, {prop("A", "1"), prop("A", "1"), prop("A", "2"), prop("B", "1")}} {
		if !extra.Right(l, not) {
			t.Fatalf("%v is not right", l)
		}
	}
	for _, l := range [][]api.Prop{{prop("N", "1")}, {prop("A", "2"), prop("A", "1")}, {{}}, make([]api.Prop, api.MaxExtra+1)} {
		if extra.Right(l, not) {
			t.Fatalf("%v is right", l)
		}
	}
}
