package store_test

import (
	"errors"
	"fmt"
	"slices"
	"strings"
	"testing"

	"calends/api"
	"calends/disk"
	"calends/frame"
	"calends/store"
	"calends/wal"
)

func done(t *testing.T, e error) {
	t.Helper()
	if e != nil {
		t.Fatal(e)
	}
}

func refused(t *testing.T, e error, want api.Errno) {
	t.Helper()
	if !errors.Is(e, want) || api.Place(e) != 0 {
		t.Fatalf("%v; want %v", e, want)
	}
}

// formatted is a disk with an empty store.
func formatted(t *testing.T, sectors int) *disk.Disk {
	t.Helper()
	d, e := disk.New(sectors)
	done(t, e)
	done(t, store.Format(d))
	return d
}

func opened(t *testing.T, d *disk.Disk) *store.Store {
	t.Helper()
	s, e := store.Open(d)
	if e != nil || s == nil {
		t.Fatalf("Open: %v, %v", s, e)
	}
	return s
}

func issue(t *testing.T, s *store.Store, want int) {
	t.Helper()
	if n, e := s.Issue(); e != nil || n != want {
		t.Fatalf("Issue: %d, %v; want %d", n, e, want)
	}
}

func cell(dev int, thing, key, value string, stamp int) api.Cell {
	return api.Cell{Thing: thing, Key: key, Value: value, Stamp: stamp, Dev: dev}
}

func push(dev, seq, token int, cells ...api.Cell) api.Push {
	return api.Push{Dev: dev, Seq: seq, Token: token, Cells: cells}
}

func cells(t *testing.T, what string, got []api.Cell, want ...api.Cell) {
	t.Helper()
	if !slices.Equal(got, want) {
		t.Fatalf("%s: %v; want %v", what, got, want)
	}
}

// history tells of each node the parents.
func history(s *store.Store) string {
	var l []string
	for _, c := range s.History() {
		l = append(l, fmt.Sprint(c.ID, c.Parents))
	}
	return strings.Join(l, " ")
}

func has(t *testing.T, s *store.Store, want string) {
	t.Helper()
	if got := history(s); got != want {
		t.Fatalf("History: %s; want %s", got, want)
	}
}

func TestExample(t *testing.T) {
	s := opened(t, formatted(t, 20))
	c := cell(1, "x", "k", "v", 1)
	done(t, s.Push(push(1, 1, 0, c)))
	has(t, s, "1 [] 2 [1] 3 [1 2]")
	cells(t, "State", s.State(), c)
	refused(t, s.Push(push(1, 1, 0, c)), api.ErrThere)
}

// P19.1

func TestFormatAndOpenRefuse(t *testing.T) {
	refused(t, store.Format(nil), api.ErrNil)
	small, _ := disk.New(5)
	refused(t, store.Format(small), api.ErrArg)
	for _, c := range []struct {
		d    *disk.Disk
		want api.Errno
	}{{nil, api.ErrNil}, {small, api.ErrArg}} {
		s, e := store.Open(c.d)
		refused(t, e, c.want)
		if s != nil {
			t.Fatal("a store beside an error")
		}
	}
	blank, _ := disk.New(6)
	_, e := store.Open(blank)
	refused(t, e, api.ErrBroken)
}

func TestOpenOfEmptyStore(t *testing.T) {
	s := opened(t, formatted(t, 6))
	has(t, s, "1 []")
	if len(s.State()) != 0 || s.Seq(1) != 0 || s.Known(1) || s.Known(0) || s.Room() != 512 {
		t.Fatal("an empty store has something")
	}
}

// records are those of a store's log.
func records(t *testing.T, d *disk.Disk) []string {
	t.Helper()
	l, e := wal.Open(d)
	done(t, e)
	return l.Records()
}

// logged is a disk with a log of some records.
func logged(t *testing.T, records ...string) *disk.Disk {
	t.Helper()
	d := formatted(t, 200)
	l, e := wal.Open(d)
	done(t, e)
	done(t, l.Append(records...))
	done(t, l.Sync())
	return d
}

func TestOpenOfOtherRecords(t *testing.T) {
	d := formatted(t, 200)
	s := opened(t, d)
	done(t, s.Push(push(1, 3, 0, cell(1, "x", "k", "v", 1), cell(1, "x", "l", "v", 1))))
	issue(t, s, 1)
	issue(t, s, 2)
	plain := records(t, d)
	done(t, s.Compact())
	left := records(t, d)
	unopened := func(l ...string) {
		t.Helper()
		s, e := store.Open(logged(t, l...))
		refused(t, e, api.ErrBroken)
		if s != nil {
			t.Fatal("a store beside an error")
		}
	}
	opened(t, logged(t, plain...))
	opened(t, logged(t, left...))
	opened(t, logged(t, append(slices.Clone(left), plain[0][:2]+"\x04"+plain[0][3:])...))
	unopened("x")
	unopened("")
	unopened(plain[0], plain[0])                                    // a push twice
	unopened(append(slices.Clone(left), plain[0])...)               // a push that the Compact knew
	unopened(plain[1], plain[1])                                    // a token twice
	unopened(plain[2])                                              // a token without those ahead
	unopened(left[:len(left)-1]...)                                 // a cell is missing
	unopened(append(slices.Clone(left[:len(left)-1]), plain[2])...) // another one in its place
	unopened(append(slices.Clone(left), left[len(left)-1])...)      // one more cell
	unopened(left[0], left[2], left[1])                             // cells that don't rise
	unopened(left[0], left[1], left[1])                             // one twice
	unopened(append(slices.Clone(left), left...)...)                // all twice
	unopened(append(slices.Clone(plain), left...)...)               // a Compact behind others
	unopened(left[1:]...)                                           // cells without a beginning
	for _, l := range [][]string{plain, left} {
		for at := range l {
			for cut := range l[at] {
				m := slices.Clone(l)
				m[at] = m[at][:cut]
				if s, e := store.Open(logged(t, m...)); e == nil && at == 0 && len(l) == len(left) && cut > 40 {
					continue // fewer tokens are known: that is such as a Compact leaves
				} else if !errors.Is(e, api.ErrBroken) || s != nil {
					t.Fatalf("record %d cut at %d: %v", at, cut, e)
				}
			}
			m := slices.Clone(l)
			m[at] += "x"
			unopened(m...)
		}
	}
}

// P19.2

func TestMay(t *testing.T) {
	c := cell(1, "x", "k", "v", 1)
	long := cell(1, "x", "k", strings.Repeat("v", api.MaxBytes-2), 1)
	changed := func(change func(*api.Cell)) api.Push {
		x := c
		change(&x)
		return push(1, 1, 0, c, x)
	}
	for _, p := range []api.Push{
		push(1, 1, 0, c), push(1, api.MaxSeq, 1<<62, c), push(8, 1, 0, cell(8, "x", "k", "", 1)), push(1, 1, 0, slices.Repeat([]api.Cell{c}, api.MaxCells)...), push(1, 1, 0, long),
		changed(func(x *api.Cell) { x.Stamp = api.MaxStamp }), changed(func(x *api.Cell) { x.Thing = strings.Repeat("x", api.MaxThing) }), changed(func(x *api.Cell) { x.Gone, x.Value = true, "" }),
		push(1, 1, 0, cell(1, "x", strings.Repeat("k", api.MaxBytes-1), "", 1)),
	} {
		if !store.May(p) {
			t.Errorf("%.200v may not be", p)
		}
		done(t, opened(t, formatted(t, 200)).Push(p))
	}
	for _, p := range []api.Push{
		{}, push(0, 1, 0, cell(0, "x", "k", "", 1)), push(9, 1, 0, cell(9, "x", "k", "", 1)), push(1, 0, 0, c), push(1, -1, 0, c), push(1, api.MaxSeq+1, 0, c), push(1, 1, -1, c), push(1, 1, 0), push(1, 1, 0, slices.Repeat([]api.Cell{c}, api.MaxCells+1)...),
		push(2, 1, 0, c), push(1, 1, 0, long, cell(1, "x", "k", "", 1)), changed(func(x *api.Cell) { x.Dev = 2 }), changed(func(x *api.Cell) { x.Stamp = 0 }), changed(func(x *api.Cell) { x.Stamp = api.MaxStamp + 1 }),
		changed(func(x *api.Cell) { x.Thing = "" }), changed(func(x *api.Cell) { x.Thing = strings.Repeat("x", api.MaxThing+1) }), changed(func(x *api.Cell) { x.Key = "" }), changed(func(x *api.Cell) { x.Gone = true }),
	} {
		if store.May(p) {
			t.Errorf("%.200v may be", p)
		}
		s := opened(t, formatted(t, 200))
		refused(t, s.Push(p), api.ErrArg)
		has(t, s, "1 []")
	}
}

func TestPushRefuses(t *testing.T) {
	var none *store.Store
	c := cell(1, "x", "k", "v", 1)
	refused(t, none.Push(push(1, 1, 0, c)), api.ErrNil)
	refused(t, new(store.Store).Push(api.Push{}), api.ErrNil)
	d := formatted(t, 6)
	s := opened(t, d)
	done(t, s.Push(push(1, 5, 0, c)))
	refused(t, s.Push(push(1, 5, 0)), api.ErrArg)
	refused(t, s.Push(push(1, 5, 0, c)), api.ErrThere)
	refused(t, s.Push(push(1, 4, 0, c)), api.ErrThere)
	big := cell(1, "x", "k", strings.Repeat("v", 600), 1)
	refused(t, s.Push(push(1, 6, 0, big)), api.ErrFull)
	d.Limit(0)
	refused(t, s.Push(push(1, 6, 0, c)), api.ErrPower)
	refused(t, s.Push(push(1, 6, 0, big)), api.ErrPower)
	refused(t, s.Push(push(1, 5, 0, big)), api.ErrThere)
	refused(t, s.Compact(), api.ErrPower)
	_, e := s.Issue()
	refused(t, e, api.ErrPower)
	has(t, s, "1 [] 2 [1] 3 [1 2]")
	cells(t, "State", s.State(), c)
}

func TestPushStandsOnBranchAndToken(t *testing.T) {
	s := opened(t, formatted(t, 200))
	a, b, c := cell(1, "x", "a", "1", 1), cell(2, "x", "b", "2", 1), cell(1, "x", "c", "3", 2)
	done(t, s.Push(push(1, 1, 0, a)))
	issue(t, s, 1)
	done(t, s.Push(push(2, 7, 0, b)))
	has(t, s, "1 [] 2 [1] 3 [1 2] 4 [1] 5 [3 4]")
	issue(t, s, 2)
	done(t, s.Push(push(1, 2, 2, c)))
	has(t, s, "1 [] 2 [1] 3 [1 2] 4 [1] 5 [3 4] 6 [2 5] 7 [5 6]")
	// A token that is not known is as none.
	done(t, s.Push(push(2, 8, 99, cell(2, "x", "b", "4", 3))))
	has(t, s, "1 [] 2 [1] 3 [1 2] 4 [1] 5 [3 4] 6 [2 5] 7 [5 6] 8 [4] 9 [7 8]")
	cells(t, "State", s.State(), a, cell(2, "x", "b", "4", 3), c)
	cells(t, "At 1", s.At(1), a)
	cells(t, "At 2", s.At(2), a, b)
	// The node of the token and the branch may be one.
	fresh := opened(t, formatted(t, 200))
	issue(t, fresh, 1)
	done(t, fresh.Push(push(1, 1, 1, a)))
	has(t, fresh, "1 [] 2 [1] 3 [1 2]")
	if s.Seq(1) != 2 || s.Seq(2) != 8 || s.Seq(3) != 0 || s.Seq(0) != 0 || s.Seq(9) != 0 || s.Seq(-1) != 0 {
		t.Fatal("Seq")
	}
}

// P19.3 and P19.4

func TestLooksOfNothing(t *testing.T) {
	for _, s := range []*store.Store{nil, new(store.Store)} {
		if s.Known(1) || len(s.At(1))+len(s.State())+len(s.History())+s.Seq(1)+s.Room() != 0 {
			t.Fatal("nothing has something")
		}
		refused(t, s.Compact(), api.ErrNil)
		n, e := s.Issue()
		refused(t, e, api.ErrNil)
		if n != 0 {
			t.Fatal("a token beside an error")
		}
	}
}

func TestListsAreTheCallersOwn(t *testing.T) {
	s := opened(t, formatted(t, 200))
	p := push(1, 1, 0, cell(1, "x", "k", "v", 1))
	done(t, s.Push(p))
	issue(t, s, 1)
	p.Cells[0].Value = "z"
	s.State()[0].Value = "z"
	s.At(1)[0].Value = "z"
	s.History()[1].Parents[0] = 9
	cells(t, "State", s.State(), cell(1, "x", "k", "v", 1))
	cells(t, "At", s.At(1), cell(1, "x", "k", "v", 1))
	has(t, s, "1 [] 2 [1] 3 [1 2]")
}

func TestCompact(t *testing.T) {
	d := formatted(t, 200)
	s := opened(t, d)
	a, b := cell(1, "x", "a", "1", 1), cell(2, "x", "b", "2", 1)
	issue(t, s, 1)
	done(t, s.Push(push(1, 4, 0, a)))
	issue(t, s, 2)
	done(t, s.Push(push(2, 1, 0, b)))
	for n := 3; n <= 105; n++ {
		issue(t, s, n)
	}
	done(t, s.Compact())
	for range 2 {
		has(t, s, "1 []")
		cells(t, "State", s.State(), a, b)
		for n := -1; n < 110; n++ {
			if s.Known(n) != (n >= 6 && n <= 105) {
				t.Fatalf("Known(%d): %v", n, s.Known(n))
			}
		}
		cells(t, "At", s.At(50), a, b)
		cells(t, "At of one that is not known", s.At(5))
		if s.Seq(1) != 4 || s.Seq(2) != 1 {
			t.Fatal("Seq")
		}
		s = opened(t, d)
	}
	issue(t, s, 106)
	done(t, s.Push(push(1, 5, 2, a)))
	has(t, s, "1 [] 2 [1] 3 [1 2]")
	done(t, s.Compact())
	if s.Known(106) || s.Known(105) {
		t.Fatal("tokens of another node are known")
	}
	issue(t, s, 107)
}

func TestCompactMakesRoom(t *testing.T) {
	d := formatted(t, 6)
	s := opened(t, d)
	var tokens []int
	for seq := 1; seq <= 60; seq++ {
		was := len(s.History())
		c := cell(1, "x", "k", strings.Repeat("v", 100), seq)
		done(t, s.Push(push(1, seq, 0, c)))
		cells(t, "State", s.State(), c)
		switch n := len(s.History()); {
		case n == was+2:
		case n == 3:
			// What stood for the main node then is known still.
			for _, token := range tokens {
				if s.Known(token) != (token == tokens[len(tokens)-1]) {
					t.Fatalf("seq %d: Known(%d): %v", seq, token, s.Known(token))
				}
			}
			tokens = nil
		default:
			t.Fatalf("%d nodes behind %d", n, was)
		}
		n, e := s.Issue()
		done(t, e)
		tokens = append(tokens, n)
	}
}

func TestFullChangesNothing(t *testing.T) {
	s := opened(t, formatted(t, 6))
	a := cell(1, "x", "k", strings.Repeat("v", 200), 1)
	done(t, s.Push(push(1, 1, 0, a)))
	issue(t, s, 1)
	done(t, s.Push(push(1, 2, 0, cell(1, "x", "l", "", 2))))
	was, room, state := history(s), s.Room(), s.State()
	refused(t, s.Push(push(2, 1, 0, cell(2, "x", "m", strings.Repeat("v", 250), 1))), api.ErrFull)
	if history(s) != was || s.Room() != room || !s.Known(1) || s.Seq(2) != 0 {
		t.Fatal("what is refused changes something")
	}
	cells(t, "State", s.State(), state...)
	cells(t, "At", s.At(1), a)
	// Tokens fill the log, too; in the end there is no room for one.
	last := 1
	for {
		n, e := s.Issue()
		if e != nil {
			refused(t, e, api.ErrFull)
			break
		}
		if n != last+1 {
			t.Fatalf("token %d behind %d", n, last)
		}
		last = n
	}
	if n, e := s.Issue(); n != 0 || !errors.Is(e, api.ErrFull) || !s.Known(last) {
		t.Fatal("a token that is refused changes something")
	}
	tight := opened(t, formatted(t, 6))
	for seq := 1; ; seq++ {
		if e := tight.Push(push(1, seq, 0, cell(1, "x", fmt.Sprint(seq), "", 1))); e != nil {
			refused(t, e, api.ErrFull)
			break
		}
	}
	if e := tight.Compact(); e != nil {
		refused(t, e, api.ErrFull)
	}
}

// bound is how many bytes a cell's record has at the most.
func bound(c api.Cell) int {
	n := len(c.Thing) + len(c.Key) + len(c.Value)
	return 31 + n + n/40
}

func TestSizesOfRecords(t *testing.T) {
	d := dice(1)
	disk := formatted(t, 4000)
	s := opened(t, disk)
	half := s.Room()
	for seq := 1; seq <= 80; seq++ {
		p := push(1+d.below(8), seq, d.below(3)<<60)
		most := 50
		for range 1 + d.below(20) {
			c := cell(p.Dev, d.text(40)+"x", d.text(300)+"k", d.text(400), 1+d.below(api.MaxStamp))
			p.Cells = append(p.Cells, c)
			most += bound(c)
		}
		room := s.Room()
		done(t, s.Push(p))
		if used := room - s.Room() - frame.Size(""); used > most {
			t.Fatalf("a push of %d bytes; want %d at the most", used, most)
		}
		room = s.Room()
		_, e := s.Issue()
		done(t, e)
		if used := room - s.Room() - frame.Size(""); used > 16 {
			t.Fatalf("a token of %d bytes", used)
		}
	}
	for range 150 {
		_, e := s.Issue()
		done(t, e)
	}
	done(t, s.Compact())
	most := 300 + 24*100
	for _, c := range s.State() {
		most += bound(c) + 1
	}
	if used := half - s.Room(); used > most {
		t.Fatalf("a Compact leaves %d bytes; want %d at the most", used, most)
	}
}
