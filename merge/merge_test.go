package merge_test

import (
	"slices"
	"strings"
	"testing"

	"calends/api"
	"calends/fields"
	"calends/merge"
)

func cell(thing, key, value string, stamp, dev int) api.Cell {
	return api.Cell{Thing: thing, Key: key, Value: value, Stamp: stamp, Dev: dev}
}

func gone(thing, key string, stamp, dev int) api.Cell {
	return api.Cell{Thing: thing, Key: key, Gone: true, Stamp: stamp, Dev: dev}
}

func cells(t *testing.T, what string, got []api.Cell, want ...api.Cell) {
	t.Helper()
	if !slices.Equal(got, want) {
		t.Fatalf("%s: %v; want %v", what, got, want)
	}
}

func list(t *testing.T, what string, got []api.Field, want ...api.Field) {
	t.Helper()
	if !slices.Equal(got, want) {
		t.Fatalf("%s: %q; want %q", what, got, want)
	}
}

// P17.1

func TestAbove(t *testing.T) {
	// From the lowest on, each is above those ahead of it.
	rising := []api.Cell{
		cell("", "", "", -1, 9), cell("", "", "", 0, 0), cell("", "", "z", 1, 1), {Gone: true, Stamp: 1, Dev: 1}, {Gone: true, Stamp: 1, Dev: 1, Value: "a"},
		cell("", "", "", 1, 2), cell("", "", "A", 1, 2), cell("", "", "AA", 1, 2), cell("", "", "a", 1, 2), cell("", "", "\xff", 1, 2), {Gone: true, Stamp: 1, Dev: 2}, cell("", "", "", 2, 0),
	}
	for i, a := range rising {
		for j, b := range rising {
			// Where cells stand does not matter.
			b.Thing, b.Key = "t", "k"
			if merge.Above(a, b) != (i > j) {
				t.Errorf("Above(%v, %v): %v", a, b, i <= j)
			}
		}
	}
}

func TestNormAndJoin(t *testing.T) {
	a, b, c := cell("x", "k", "1", 1, 1), cell("x", "k", "2", 1, 2), cell("x", "a", "3", 9, 1)
	d, e := cell("", "z", "4", 1, 1), gone("y", "k", 3, 1)
	want := []api.Cell{d, c, b, e}
	cells(t, "Norm", merge.Norm(a, e, c, b, a, d), want...)
	cells(t, "Norm of nothing", merge.Norm())
	cells(t, "Join", merge.Join([]api.Cell{e, a}, nil, []api.Cell{b, d}, []api.Cell{c}), want...)
	cells(t, "Join of nothing", merge.Join())
	in := []api.Cell{e, a}
	merge.Norm(in...)[0].Value = "z"
	merge.Join(in)[0].Value = "z"
	if in[0] != e || in[1] != a {
		t.Fatal("what was handed in has changed")
	}
}

func TestBelow(t *testing.T) {
	low, high, other := cell("x", "k", "1", 1, 1), cell("x", "k", "2", 2, 1), cell("y", "k", "", 1, 1)
	for _, c := range []struct {
		a, b []api.Cell
		want bool
	}{
		{nil, nil, true}, {nil, []api.Cell{low}, true}, {[]api.Cell{low}, nil, false}, {[]api.Cell{low}, []api.Cell{low}, true}, {[]api.Cell{low}, []api.Cell{high, other}, true},
		{[]api.Cell{high}, []api.Cell{low, other}, false}, {[]api.Cell{low, other}, []api.Cell{high}, false}, {[]api.Cell{low, high}, []api.Cell{high}, true}, {[]api.Cell{high}, []api.Cell{high, low}, true},
	} {
		if merge.Below(c.a, c.b) != c.want {
			t.Errorf("Below(%v, %v): %v", c.a, c.b, !c.want)
		}
	}
}

// P17.2

func TestThree(t *testing.T) {
	was, mine, other := cell("x", "k", "5", 5, 1), cell("x", "k", "1", 1, 1), cell("x", "k", "2", 2, 1)
	one := func(l ...api.Cell) []api.Cell { return l }
	cells(t, "only other changed", merge.Three(one(was), one(was), one(other)), other)
	cells(t, "only mine changed", merge.Three(one(was), one(mine), one(was)), mine)
	cells(t, "both changed", merge.Three(one(was), one(mine), one(other)), other)
	cells(t, "none changed", merge.Three(one(was), one(was), one(was)), was)
	cells(t, "no base", merge.Three(nil, one(mine), one(other)), other)
	cells(t, "one alone", merge.Three(one(was), one(mine), nil), mine)
	cells(t, "one alone, as it was", merge.Three(one(was), nil, one(was)), was)
	cells(t, "gone in both", merge.Three(one(was), nil, nil))
	top := cell("x", "k", "9", 9, 1)
	cells(t, "lists that are no states", merge.Three(one(was, top), one(mine, top), one(other)), other)
}

func TestDelta(t *testing.T) {
	a, b, c := cell("x", "a", "1", 1, 1), cell("x", "b", "1", 1, 1), cell("x", "b", "1", 2, 1)
	cells(t, "Delta", merge.Delta([]api.Cell{a, b}, []api.Cell{c, a}), c)
	cells(t, "Delta of nothing", merge.Delta(nil, []api.Cell{b, a}), a, b)
	cells(t, "Delta to nothing", merge.Delta([]api.Cell{a}, nil))
	cells(t, "Delta back", merge.Delta([]api.Cell{c}, []api.Cell{b}), b)
	cells(t, "Delta of lists that are no states", merge.Delta([]api.Cell{b, c}, []api.Cell{b, c, a}), a)
}

// P17.3

func TestFields(t *testing.T) {
	state := []api.Cell{cell("x", "b", "2", 1, 1), cell("x", "a", "1", 1, 1), gone("x", "c", 1, 1), cell("y", "a", "3", 1, 1), cell("x", "b", "4", 2, 1), cell("x", "d", "5", 1, 1), gone("x", "d", 2, 1)}
	list(t, "Fields", merge.Fields(state, "x"), api.Field{Key: "a", Value: "1"}, api.Field{Key: "b", Value: "4"})
	list(t, "Fields", merge.Fields(state, "z"))
	list(t, "Fields", merge.Fields(nil, ""))
}

// thing is the cells of an entry.
func thing(name, uid, summary string, stamp int) []api.Cell {
	return []api.Cell{cell(name, "0kind", "VEVENT", stamp, 1), cell(name, "0uid", uid, stamp, 1), cell(name, "2start", "DTSTART;VALUE=DATE:20000101", stamp, 1), cell(name, "7r/SUMMARY", "SUMMARY:"+summary, stamp, 1)}
}

// told is what is listed of it.
func told(uid, summary string) string {
	return strings.Join([]string{"BEGIN:VCALENDAR", "VERSION:2.0", "BEGIN:VEVENT", "UID:" + uid, "DTSTART;VALUE=DATE:20000101", "SUMMARY:" + summary, "END:VEVENT", "END:VCALENDAR", ""}, "\r\n")
}

func TestListing(t *testing.T) {
	state := slices.Concat(thing("z", "a", "1", 1), thing("b", "b", "2", 1), thing("d", "b", "3", 1), []api.Cell{cell("a", "0kind", "VEVENT", 1, 1), cell("a", "0uid", "b", 1, 1)}, thing("y", "c", "4", 1), []api.Cell{gone("y", "0kind", 2, 1)})
	list(t, "Listing", merge.Listing(state), api.Field{Key: "b", Value: told("b", "2")}, api.Field{Key: "z", Value: told("a", "1")})
	list(t, "Listing of nothing", merge.Listing(nil))
	// Once the smaller name is not there any more, the other one is.
	list(t, "Listing", merge.Listing(append(state, gone("b", "2start", 2, 1))), api.Field{Key: "d", Value: told("b", "3")}, api.Field{Key: "z", Value: told("a", "1")})
}

// P17.4

func TestEdit(t *testing.T) {
	f := func(key, value string) api.Field { return api.Field{Key: key, Value: value} }
	state := []api.Cell{cell("x", "same", "1", 1, 1), cell("x", "other", "1", 1, 1), cell("x", "left", "1", 1, 1), gone("x", "back", 1, 1), gone("x", "away", 1, 1), cell("y", "k", "1", 1, 1)}
	cells(t, "Edit", merge.Edit(state, "x", []api.Field{f("same", "1"), f("other", "2"), f("back", ""), f("new", "3"), f("new", "4"), f("same", "9")}, 7, 5),
		cell("x", "back", "", 7, 5), gone("x", "left", 7, 5), cell("x", "new", "3", 7, 5), cell("x", "other", "2", 7, 5))
	cells(t, "Edit of nothing", merge.Edit(nil, "x", []api.Field{f("k", "1")}, 1, 1), cell("x", "k", "1", 1, 1))
	cells(t, "Edit to nothing", merge.Edit(state, "y", nil, 2, 3), gone("y", "k", 2, 3))
	cells(t, "Edit to the same", merge.Edit(state, "y", []api.Field{f("k", "1")}, 2, 3))
	cells(t, "Edit of what is no state", merge.Edit([]api.Cell{cell("x", "k", "1", 1, 1), gone("x", "k", 2, 1)}, "x", []api.Field{f("k", "1")}, 3, 1), cell("x", "k", "1", 3, 1))
}

func TestTop(t *testing.T) {
	for _, c := range []struct {
		l    []api.Cell
		want int
	}{{nil, 0}, {[]api.Cell{cell("", "", "", -5, 0)}, 0}, {[]api.Cell{cell("", "", "", 3, 0), cell("", "", "", 7, 0), cell("", "", "", 5, 0)}, 7}} {
		if n := merge.Top(c.l); n != c.want {
			t.Errorf("Top(%v): %d", c.l, n)
		}
	}
}

// P17.5 to P17.8

// dice are numbers that are the same in each run.
type dice uint64

func (d *dice) below(n int) int {
	*d = *d*6364136223846793005 + 1442695040888963407
	return int(uint64(*d)>>33) % n
}

func (d *dice) cells() []api.Cell {
	var l []api.Cell
	for range d.below(8) {
		c := cell(string(rune('x'+d.below(2))), string(rune('a'+d.below(3))), string(rune('0'+d.below(2))), 1+d.below(3), 1+d.below(2))
		if d.below(3) == 0 {
			c.Gone, c.Value = true, ""
		}
		l = append(l, c)
	}
	return l
}

func TestLaws(t *testing.T) {
	for seed := range 5000 {
		d := dice(seed)
		a, b, c := d.cells(), d.cells(), d.cells()
		ab := merge.Join(a, b)
		cells(t, "a state with itself", merge.Join(ab, ab), ab...)
		cells(t, "the other way", merge.Join(b, a), ab...)
		cells(t, "one by one", merge.Join(ab, c), merge.Join(a, merge.Join(b, c))...)
		cells(t, "all together", merge.Join(c, a, b), merge.Join(ab, c)...)
		if !merge.Below(a, ab) || !merge.Below(b, ab) || merge.Below(ab, a) != slices.Equal(ab, merge.Norm(a...)) {
			t.Fatalf("%v and %v are not below %v", a, b, ab)
		}
		base := c
		left, right := merge.Join(base, a), merge.Join(base, b)
		cells(t, "three", merge.Three(base, left, right), merge.Join(left, right)...)
		cells(t, "three of any", merge.Three(base, a, b), merge.Three(base, b, a)...)
		cells(t, "delta", merge.Join(base, merge.Delta(base, left)), left...)
		for _, x := range ab {
			if slices.ContainsFunc(slices.Concat(a, b), func(y api.Cell) bool { return y.Thing == x.Thing && y.Key == x.Key && merge.Above(y, x) }) {
				t.Fatalf("%v is not the top one of %v and %v", x, a, b)
			}
		}
	}
}

func TestEditedIsAsWanted(t *testing.T) {
	for seed := range 2000 {
		d := dice(seed)
		state := d.cells()
		var want []api.Field
		for _, f := range merge.Fields(d.cells(), "x") {
			want = append(want, f)
		}
		edit := merge.Edit(state, "x", want, merge.Top(state)+1, 1)
		now := merge.Join(state, edit)
		list(t, "the thing", merge.Fields(now, "x"), want...)
		list(t, "another one", merge.Fields(now, "y"), merge.Fields(state, "y")...)
		for _, c := range edit {
			if c.Gone && c.Value != "" || c.Thing != "x" {
				t.Fatalf("%v", c)
			}
		}
	}
}

// What different devices do to different fields of a thing is done, all of it.
func TestFieldByField(t *testing.T) {
	read := func(s string) []api.Field {
		l, e := fields.Read(s)
		if e != nil {
			t.Fatal(e)
		}
		return l
	}
	state := merge.Edit(nil, "x", read(told("a", "1")), 1, 1)
	first := merge.Edit(state, "x", read(strings.Replace(told("a", "1"), "SUMMARY", "LOCATION:here\r\nSUMMARY", 1)), 2, 1)
	second := merge.Edit(state, "x", read(told("a", "2")), 2, 2)
	list(t, "both", merge.Listing(merge.Join(second, state, first)), api.Field{Key: "x", Value: strings.Replace(told("a", "2"), "SUMMARY", "LOCATION:here\r\nSUMMARY", 1)})
}
