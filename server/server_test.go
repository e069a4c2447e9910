package server_test

import (
	"errors"
	"fmt"
	"reflect"
	"slices"
	"strings"
	"testing"

	"calends/api"
	"calends/fields"
	"calends/frame"
	"calends/merge"
	"calends/server"
	"calends/when"
)

func made(t *testing.T, sectors, quota int) *server.Server {
	t.Helper()
	s, e := server.New(sectors, quota)
	if e != nil || s == nil || !s.Up() {
		t.Fatalf("New: %v, %v", s, e)
	}
	return s
}

func cell(dev int, thing, key, value string, stamp int) api.Cell {
	return api.Cell{Thing: thing, Key: key, Value: value, Stamp: stamp, Dev: dev}
}

func push(dev, seq, token int, cells ...api.Cell) api.Msg {
	return api.Msg{Kind: api.MsgPush, Dev: dev, Seq: seq, Token: token, Cells: cells}
}

func pull(dev, token int) api.Msg { return api.Msg{Kind: api.MsgPull, Dev: dev, Token: token} }

func takes(t *testing.T, s *server.Server, m api.Msg, want api.Reply) {
	t.Helper()
	want.Kind, want.Dev = m.Kind, m.Dev
	if m.Kind == api.MsgPush {
		want.Seq = m.Seq
	}
	got := s.Take(m)
	if fmt.Sprint(got) != fmt.Sprint(want) {
		t.Fatalf("Take(%v): %v; want %v", m, got, want)
	}
}

func refuses(t *testing.T, s *server.Server, m api.Msg, want api.Errno) {
	t.Helper()
	takes(t, s, m, api.Reply{Err: want})
}

func at(s string) api.Time {
	t, e := when.Parse(s)
	if e != nil {
		panic(s)
	}
	return t
}

// entry is the text of one.
func entry(uid string, rows ...string) string {
	l := slices.Concat([]string{"BEGIN:VCALENDAR", "VERSION:2.0", "BEGIN:VEVENT", "UID:" + uid}, rows, []string{"END:VEVENT", "END:VCALENDAR", ""})
	return strings.Join(l, "\r\n")
}

const card = "BEGIN:VCARD\r\nVERSION:4.0\r\nUID:c\r\nFN:C\r\nEND:VCARD\r\n"

// put is the cells of a thing's text.
func put(t *testing.T, dev int, thing, text string) []api.Cell {
	t.Helper()
	l, e := fields.Read(text)
	if e != nil {
		t.Fatal(e)
	}
	return merge.Edit(nil, thing, l, 1, dev)
}

func TestExample(t *testing.T) {
	s := made(t, 200, 5000)
	c := cell(1, "x", "k", "v", 1)
	takes(t, s, push(1, 1, 0, c), api.Reply{})
	takes(t, s, pull(1, 0), api.Reply{Token: 1, Cells: []api.Cell{c}})
	takes(t, s, pull(1, 1), api.Reply{Base: 1, Token: 2})
}

// P20.1

func TestNewRefuses(t *testing.T) {
	for _, c := range []struct {
		sectors, quota int
		want           api.Errno
	}{{10, -1, api.ErrArg}, {0, 5, api.ErrArg}, {5, 5, api.ErrArg}, {api.MaxSectors + 1, 5, api.ErrArg}} {
		s, e := server.New(c.sectors, c.quota)
		if !errors.Is(e, c.want) || s != nil {
			t.Errorf("New(%d, %d): %v, %v", c.sectors, c.quota, s, e)
		}
	}
	made(t, 6, 0)
}

func TestLooks(t *testing.T) {
	var none *server.Server
	for _, s := range []*server.Server{none, new(server.Server)} {
		if s.Up() || s.Known(1) || len(s.State())+len(s.Listing()) != 0 {
			t.Fatal("nothing has something")
		}
		s.Limit(0)
		if e := s.Crash(0, 0); !errors.Is(e, api.ErrNil) {
			t.Fatal(e)
		}
		refuses(t, s, push(1, 1, 0), api.ErrNil)
		refuses(t, s, api.Msg{Kind: 99, Dev: -1}, api.ErrNil)
	}
	s := made(t, 200, 5000)
	cells := put(t, 1, "a", entry("u", "DTSTART;VALUE=DATE:20000101"))
	takes(t, s, push(1, 1, 0, cells...), api.Reply{})
	s.Take(pull(1, 0))
	if !slices.Equal(s.State(), cells) || len(s.Listing()) != 1 || s.Listing()[0] != (api.Field{Key: "a", Value: entry("u", "DTSTART;VALUE=DATE:20000101")}) || !s.Known(1) || s.Known(2) {
		t.Fatalf("%v, %v", s.State(), s.Listing())
	}
}

// P20.2

func TestTakeRefuses(t *testing.T) {
	s := made(t, 200, 5000)
	for _, kind := range []int{0, 6, -1} {
		refuses(t, s, api.Msg{Kind: kind, Dev: 99, Seq: 5}, api.ErrKind)
	}
	for kind := api.MsgPush; kind <= api.MsgQuery; kind++ {
		for _, dev := range []int{0, -1, 9} {
			refuses(t, s, api.Msg{Kind: kind, Dev: dev, Seq: 5}, api.ErrArg)
		}
	}
	s.Limit(0)
	refuses(t, s, pull(1, 0), api.ErrPower)
	if s.Up() || s.Known(1) || s.State() != nil {
		t.Fatal("it is up")
	}
	refuses(t, s, api.Msg{Kind: 99, Dev: 99}, api.ErrPower)
}

func TestPush(t *testing.T) {
	s := made(t, 200, 20)
	c := cell(1, "x", "k", "v", 1)
	takes(t, s, push(1, 3, 0, c), api.Reply{})
	takes(t, s, push(api.MaxDevs, 0, 0), api.Reply{})
	// The same once more, and older ones, whatever they have.
	for _, m := range []api.Msg{push(1, 3, 0, c), push(1, 2, -5), push(1, 0, 0), push(2, 0, 0), push(2, -1, 0), push(1, 3, 0, cell(1, "x", "k", "other", 9))} {
		takes(t, s, m, api.Reply{})
		if !slices.Equal(s.State(), []api.Cell{c}) {
			t.Fatalf("%v changes something", m)
		}
	}
	for _, m := range []api.Msg{push(1, 4, 0), push(1, 4, -1, c), push(1, api.MaxSeq+1, 0, c), push(2, 1, 0, c), push(1, 4, 0, cell(1, "", "k", strings.Repeat("v", 50), 1))} {
		refuses(t, s, m, api.ErrArg)
	}
	// The quota holds for what comes of it, not for what is pushed.
	refuses(t, s, push(1, 4, 0, cell(1, "x", "l", strings.Repeat("v", 16), 1)), api.ErrQuota)
	takes(t, s, push(1, 4, 0, cell(1, "x", "l", strings.Repeat("v", 15), 1)), api.Reply{})
	takes(t, s, push(1, 5, 0, cell(1, "x", "l", strings.Repeat("v", 90), 0+1), cell(1, "x", "l", "", 5)), api.Reply{})
	takes(t, s, push(1, 6, 0, cell(1, "x", "l", strings.Repeat("v", 90), 4)), api.Reply{})
	small := made(t, 6, 5000)
	refuses(t, small, push(1, 1, 0, cell(1, "x", "l", strings.Repeat("v", 600), 1)), api.ErrFull)
	refuses(t, made(t, 6, 0), push(1, 1, 0, c), api.ErrQuota)
}

func TestPull(t *testing.T) {
	s := made(t, 200, 5000)
	a, b := cell(1, "x", "a", "1", 1), cell(2, "x", "b", "2", 1)
	takes(t, s, pull(1, 7), api.Reply{Token: 1})
	s.Take(push(1, 1, 0, a))
	takes(t, s, pull(2, 1), api.Reply{Base: 1, Token: 2, Cells: []api.Cell{a}})
	s.Take(push(2, 1, 0, b))
	takes(t, s, pull(1, 2), api.Reply{Base: 2, Token: 3, Cells: []api.Cell{b}})
	takes(t, s, pull(1, 1), api.Reply{Base: 1, Token: 4, Cells: []api.Cell{a, b}})
	takes(t, s, pull(1, 0), api.Reply{Token: 5, Cells: []api.Cell{a, b}})
	takes(t, s, pull(1, -3), api.Reply{Token: 6, Cells: []api.Cell{a, b}})
	// The token that is just to come is not known ahead.
	takes(t, s, pull(1, 7), api.Reply{Token: 7, Cells: []api.Cell{a, b}})
}

func TestPullBehindACompact(t *testing.T) {
	s := made(t, 6, 5000)
	var all []api.Cell
	compacted := 0
	for seq := 1; seq < 60; seq++ {
		c := cell(1, "x", "k", strings.Repeat("v", 40+seq%7), seq)
		s.Take(push(1, seq, 0, c))
		known := s.Known(seq - 1)
		r := s.Take(pull(1, seq-1))
		all = []api.Cell{c}
		switch {
		case r.Err != 0 || r.Token != seq:
			t.Fatalf("%v", r)
		case r.Base == 0 && seq > 1:
			compacted++
			if !slices.Equal(r.Cells, all) {
				t.Fatalf("%v; want %v", r.Cells, all)
			}
		case r.Base != 0 && (!known || !s.Known(r.Base) || !slices.Equal(r.Cells, all)):
			t.Fatalf("%v; want %v", r, all)
		}
	}
	if compacted == 0 {
		t.Fatal("nothing was compacted")
	}
	for {
		if r := s.Take(pull(1, 0)); r.Err != 0 {
			takes(t, s, pull(1, 0), api.Reply{Err: api.ErrFull})
			return
		}
	}
}

func TestListAndGet(t *testing.T) {
	s := made(t, 400, 9000)
	a, b := entry("a", "DTSTART;VALUE=DATE:20000101"), entry("b", "DTSTART;VALUE=DATE:20000102")
	s.Take(push(1, 1, 0, slices.Concat(put(t, 1, "z", a), put(t, 1, "y", b), put(t, 1, "c", card), put(t, 1, "zz", a), []api.Cell{cell(1, "x", "k", "v", 1)})...))
	sum := func(text string) string { return fmt.Sprint(frame.Sum(text)) }
	f := func(key, value string) api.Field { return api.Field{Key: key, Value: value} }
	takes(t, s, api.Msg{Kind: api.MsgList, Dev: 1}, api.Reply{List: []api.Field{f("c", sum(card)), f("y", sum(b)), f("z", sum(a))}})
	takes(t, s, api.Msg{Kind: api.MsgList, Dev: 1, Names: make([]string, 99)}, api.Reply{List: []api.Field{f("c", sum(card)), f("y", sum(b)), f("z", sum(a))}})
	takes(t, s, api.Msg{Kind: api.MsgGet, Dev: 1, Names: []string{"z", "x", "", "zz", "c", "z"}}, api.Reply{List: []api.Field{f("z", a), f("c", card), f("z", a)}})
	takes(t, s, api.Msg{Kind: api.MsgGet, Dev: 1}, api.Reply{})
	many := slices.Repeat([]string{"c"}, api.MaxNames)
	if r := s.Take(api.Msg{Kind: api.MsgGet, Dev: 1, Names: many}); len(r.List) != api.MaxNames {
		t.Fatalf("%v", r)
	}
	refuses(t, s, api.Msg{Kind: api.MsgGet, Dev: 1, Names: append(many, "")}, api.ErrMany)
}

func query(from, to api.Time) api.Msg {
	return api.Msg{Kind: api.MsgQuery, Dev: 1, From: from, To: to}
}

func TestQuery(t *testing.T) {
	s := made(t, 400, 9000)
	from, to := at("20000101T000000Z"), at("20000103T000000Z")
	daily := entry("a", "DTSTART;VALUE=DATE:20000101", "RRULE:FREQ=DAILY")
	s.Take(push(1, 1, 0, slices.Concat(put(t, 1, "z", daily), put(t, 1, "c", card), put(t, 1, "y", entry("b", "DTSTART:20000101T000000Z", "RDATE:20000102T100000Z")))...))
	r := s.Take(query(from, to))
	var got []string
	for _, x := range r.Found {
		s, _ := when.Print(x.Start)
		got = append(got, x.Thing+" "+s)
	}
	if want := []string{"y 20000101T000000Z", "z 20000101T000000Z", "z 20000102T000000Z", "y 20000102T100000Z"}; r.Err != 0 || !slices.Equal(got, want) {
		t.Fatalf("%v, %v; want %v", r.Err, got, want)
	}
	for _, c := range [][2]api.Time{{{}, to}, {from, {}}, {{UTC: true}, to}, {from, {UTC: true}}, {at("20000101"), to}, {from, at("20000103T000000")}, {to, from}} {
		refuses(t, s, query(c[0], c[1]), api.ErrArg)
		refuses(t, made(t, 6, 0), query(c[0], c[1]), api.ErrArg)
	}
	takes(t, made(t, 6, 0), query(from, from), api.Reply{})
	// As many as there may be, in all.
	both := made(t, 400, 9000)
	for dev, count := range []int{501, 499} {
		both.Take(push(dev+1, 1, 0, put(t, dev+1, fmt.Sprint(dev), entry(fmt.Sprint(dev), "DTSTART:20000101T000000Z", fmt.Sprintf("RRULE:FREQ=HOURLY;COUNT=%d", count)))...))
	}
	if r := both.Take(query(from, at("20010101T000000Z"))); r.Err != 0 || len(r.Found) != api.MaxInstances {
		t.Fatalf("%v, %d", r.Err, len(r.Found))
	}
	refuses(t, s, query(from, at("20050101T000000Z")), api.ErrInstance)
	refuses(t, s, query(at("22000101T000000Z"), at("22000102T000000Z")), api.ErrMany)
	s.Take(push(2, 1, 0, put(t, 2, "x", strings.Replace(daily, "UID:a", "UID:x", 1))...))
	refuses(t, s, query(from, at("20020101T000000Z")), api.ErrInstance)
	if r := s.Take(query(from, at("20010501T000000Z"))); r.Err != 0 || len(r.Found) != 2*486+2 {
		t.Fatalf("%v, %d", r.Err, len(r.Found))
	}
	// Of what is listed under one time and one name, Which tells.
	s = made(t, 400, 9000)
	text := entry("a", "DTSTART:20000101T000000Z", "RDATE:20000102T000000Z", "END:VEVENT", "BEGIN:VEVENT", "UID:a", "RECURRENCE-ID:20000101T000000Z", "DTSTART:20000102T000000Z")
	s.Take(push(1, 1, 0, put(t, 1, "z", text)...))
	if r := s.Take(query(from, to)); len(r.Found) != 2 || r.Found[0].Which.Date != 1 || !r.Found[0].Over || r.Found[1].Which.Date != 2 {
		t.Fatalf("%v", r)
	}
}

// P20.3, P20.4 to P20.7

func TestCrash(t *testing.T) {
	s := made(t, 200, 5000)
	c := cell(1, "x", "k", "v", 1)
	s.Take(push(1, 1, 0, c))
	s.Limit(1)
	refuses(t, s, push(1, 2, 0, cell(1, "x", "k", "w", 2)), api.ErrPower)
	if s.Up() {
		t.Fatal("it is up")
	}
	if e := s.Crash(-1, 0); e != nil || !s.Up() || !slices.Equal(s.State(), []api.Cell{c}) {
		t.Fatalf("%v, %v", e, s.State())
	}
	takes(t, s, push(1, 2, 0, cell(1, "x", "k", "w", 2)), api.Reply{})
	// A crash of one that is up lets no answer go.
	if e := s.Crash(-1, 0); e != nil || s.State()[0].Value != "w" {
		t.Fatalf("%v, %v", e, s.State())
	}
}

// dice are numbers that are the same in each run.
type dice uint64

func (d *dice) below(n int) int {
	*d = *d*6364136223846793005 + 1442695040888963407
	return int(uint64(*d)>>33) % n
}

func TestPlays(t *testing.T) {
	for seed := range 400 {
		d := dice(seed)
		quota := 40 + d.below(200)
		s := made(t, 6+d.below(30), quota)
		var answered []api.Cell
		known := map[int][]api.Cell{}
		seqs := [4]int{}
		for range 40 {
			if d.below(4) == 0 {
				s.Limit(d.below(8))
			}
			dev := 1 + d.below(3)
			c := cell(dev, "x", string(rune('a'+d.below(5))), strings.Repeat("v", d.below(60)), 1+d.below(9))
			m := push(dev, seqs[dev]+1, d.below(5), c)
			was := s.State()
			r := s.Take(m)
			switch {
			case r.Err == 0:
				seqs[dev]++
				answered = append(answered, c)
				if again := s.Take(m); !reflect.DeepEqual(again, r) || !slices.Equal(s.State(), merge.Norm(answered...)) {
					t.Fatalf("play %d: once more: %v", seed, again)
				}
			case r.Err != api.ErrPower && !slices.Equal(s.State(), was):
				t.Fatalf("play %d: what is refused with %v changes something", seed, r.Err)
			}
			token := 1 + d.below(9)
			p := s.Take(pull(dev, token))
			if p.Err == 0 {
				// A token may have been issued and not answered: what it tells is not known here.
				base, heard := known[p.Base]
				if p.Base != 0 && p.Base != token || (heard || p.Base == 0) && !slices.Equal(merge.Join(base, p.Cells), s.State()) {
					t.Fatalf("play %d: pulled %v on %v; want %v", seed, p, base, s.State())
				}
				known[p.Token] = s.State()
			}
			if s.Up() && d.below(5) > 0 {
				s.Limit(-1)
				continue
			}
			if e := s.Crash(d.below(20), d.below(257), 0, d.below(10), d.below(10)); e != nil || !s.Up() {
				t.Fatalf("play %d: %v", seed, e)
			}
			// All that was answered is there; of a push that was under way all or nothing.
			if state := s.State(); !slices.Equal(state, merge.Norm(answered...)) {
				if answered = append(answered, c); r.Err != api.ErrPower || !slices.Equal(state, merge.Norm(answered...)) {
					t.Fatalf("play %d: %v; want that of %v", seed, state, answered)
				}
				seqs[dev]++
			} else if r.Err == api.ErrPower {
				// It may be there, and be below what is: then it is answered as before.
				if s.Take(m).Err == 0 {
					seqs[dev]++
					answered = append(answered, c)
				}
			}
			n := 0
			for _, x := range s.State() {
				n += len(x.Thing) + len(x.Key) + len(x.Value)
			}
			if n > quota {
				t.Fatalf("play %d: %d bytes beyond the quota", seed, n)
			}
		}
	}
}
