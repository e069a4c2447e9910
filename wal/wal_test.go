package wal_test

import (
	"errors"
	"slices"
	"strings"
	"testing"

	"calends/api"
	"calends/disk"
	"calends/frame"
	"calends/wal"
)

func blank(t *testing.T, sectors int) *disk.Disk {
	t.Helper()
	d, e := disk.New(sectors)
	if e != nil {
		t.Fatal(e)
	}
	return d
}

// formatted is a disk with an empty log.
func formatted(t *testing.T, sectors int) *disk.Disk {
	t.Helper()
	d := blank(t, sectors)
	if e := wal.Format(d); e != nil {
		t.Fatalf("Format: %v", e)
	}
	return d
}

func opened(t *testing.T, d *disk.Disk) *wal.Log {
	t.Helper()
	l, e := wal.Open(d)
	if e != nil || l == nil {
		t.Fatalf("Open: %v, %v", l, e)
	}
	return l
}

func done(t *testing.T, e error) {
	t.Helper()
	if e != nil {
		t.Fatal(e)
	}
}

func refused(t *testing.T, e error, want api.Errno) {
	t.Helper()
	if !errors.Is(e, want) || api.Place(e) != 0 {
		t.Fatalf("%v; want %v, without a place", e, want)
	}
}

func looks(t *testing.T, l *wal.Log, turn, room, waiting int, records ...string) {
	t.Helper()
	if l.Turn() != turn || l.Room() != room || l.Waiting() != waiting || !slices.Equal(l.Records(), records) {
		t.Fatalf("turn %d, room %d, waiting %d, records %.99q; want %d, %d, %d, %.99q", l.Turn(), l.Room(), l.Waiting(), l.Records(), turn, room, waiting, records)
	}
}

func unopened(t *testing.T, d *disk.Disk, want api.Errno) {
	t.Helper()
	l, e := wal.Open(d)
	refused(t, e, want)
	if l != nil {
		t.Fatal("a log beside an error")
	}
}

// headBytes is a head's sector put together by hand.
func headBytes(turn uint64, half byte, bytes uint32) []byte {
	b := make([]byte, api.Sector)
	for i := range 8 {
		b[i] = byte(turn >> (8 * i))
		b[248+i] = b[i]
	}
	b[8] = half
	for i := range 4 {
		b[9+i] = byte(bytes >> (8 * i))
	}
	return b
}

func write(t *testing.T, d *disk.Disk, at int, b []byte) {
	t.Helper()
	done(t, d.Write(at, b))
	done(t, d.Flush())
}

func read(t *testing.T, d *disk.Disk, at int) []byte {
	t.Helper()
	b, e := d.Read(at)
	done(t, e)
	return b
}

// acts is how many acts a call does on a disk.
func acts(t *testing.T, d *disk.Disk, call func() error) int {
	t.Helper()
	const many = 1 << 20
	d.Limit(many)
	done(t, call())
	n := 0
	for d.Flush() == nil {
		n++
	}
	return many - n
}

func TestExample(t *testing.T) {
	l := opened(t, formatted(t, 10))
	looks(t, l, 1, 1024, 0)
	done(t, l.Append("a"))
	looks(t, l, 1, 1016, 1)
	done(t, l.Sync())
	looks(t, l, 2, 1016, 0, "a")
	done(t, l.Compact("b", "c"))
	looks(t, l, 3, 1008, 0, "b", "c")
}

// P3.1

func TestFormatLaysHeads(t *testing.T) {
	d := blank(t, 6)
	for at := range 6 {
		write(t, d, at, slices.Repeat([]byte{'x'}, api.Sector))
	}
	done(t, wal.Format(d))
	if !slices.Equal(read(t, d, 0), make([]byte, api.Sector)) || !slices.Equal(read(t, d, 1), headBytes(1, 0, 0)) {
		t.Fatalf("heads: % x, % x", read(t, d, 0), read(t, d, 1))
	}
	if read(t, d, 2)[0] != 'x' || len(d.Dirty()) != 0 {
		t.Fatal("more than the heads is laid, or not all flushed")
	}
	looks(t, opened(t, d), 1, 512, 0)
}

func TestFormatDoesFiveActs(t *testing.T) {
	d := blank(t, 6)
	if n := acts(t, d, func() error { return wal.Format(d) }); n != 5 {
		t.Fatalf("%d acts", n)
	}
	for n := range 5 {
		d := blank(t, 6)
		d.Limit(n)
		refused(t, wal.Format(d), api.ErrPower)
	}
}

func TestFormatAndOpenRefuse(t *testing.T) {
	refused(t, wal.Format(nil), api.ErrNil)
	unopened(t, nil, api.ErrNil)
	for n := 1; n < 6; n++ {
		refused(t, wal.Format(blank(t, n)), api.ErrArg)
		unopened(t, blank(t, n), api.ErrArg)
	}
	d := formatted(t, 6)
	d.Limit(0)
	refused(t, d.Flush(), api.ErrPower)
	refused(t, wal.Format(d), api.ErrPower)
	unopened(t, d, api.ErrPower)
}

func TestOpenTakesTheGreaterTurn(t *testing.T) {
	d := formatted(t, 7)
	a, _ := frame.Pack("a")
	write(t, d, 4, append([]byte(a), make([]byte, api.Sector-len(a))...))
	write(t, d, 0, headBytes(256, 1, uint32(len(a))))
	looks(t, opened(t, d), 256, 512-len(a), 0, "a")
	write(t, d, 1, headBytes(257, 1, 0))
	looks(t, opened(t, d), 257, 512, 0)
	write(t, d, 0, headBytes(1<<40, 0, 0))
	looks(t, opened(t, d), 1<<40, 512, 0)
}

func TestOpenOfBrokenHeads(t *testing.T) {
	with := func(b []byte, at int, c byte) []byte { b[at] = c; return b }
	for name, b := range map[string][]byte{
		"noughts":          make([]byte, api.Sector),
		"elsewhere":        headBytes(2, 0, 0),
		"turn 0":           headBytes(0, 0, 0),
		"a turn too great": headBytes(1<<40+1, 0, 0),
		"a negative turn":  headBytes(1<<63+1, 0, 0),
		"half 2":           headBytes(1, 2, 0),
		"not again":        with(headBytes(1, 0, 0), 248, 3),
		"other bytes":      with(headBytes(1, 0, 0), 13, 1),
		"other bytes, too": with(headBytes(1, 0, 0), 247, 1),
	} {
		d := formatted(t, 6)
		write(t, d, 1, b)
		t.Run(name, func(t *testing.T) { unopened(t, d, api.ErrBroken) })
		// The other head counts, whatever lies there.
		write(t, d, 0, headBytes(2, 1, 0))
		looks(t, opened(t, d), 2, 512, 0)
	}
}

func TestOpenOfBrokenBytes(t *testing.T) {
	a, _ := frame.Pack("a")
	for _, bytes := range []int{1, len(a) - 1, len(a) + 1, 512, 513, 1 << 31} {
		d := formatted(t, 6)
		write(t, d, 2, append([]byte(a), make([]byte, api.Sector-len(a))...))
		write(t, d, 0, headBytes(2, 0, uint32(bytes)))
		unopened(t, d, api.ErrBroken)
	}
	// The head with the lesser turn does not count, even if the other one's bytes are broken.
	d := formatted(t, 6)
	write(t, d, 0, headBytes(2, 1, 5))
	unopened(t, d, api.ErrBroken)
}

// P3.2

func TestAppendWritesNothing(t *testing.T) {
	d := formatted(t, 6)
	l := opened(t, d)
	if n := acts(t, d, func() error { return l.Append("a", "", "b") }); n != 0 {
		t.Fatalf("%d acts", n)
	}
	looks(t, l, 1, 512-23, 3)
	done(t, l.Append())
	looks(t, l, 1, 512-23, 3)
}

func TestAppendRefuses(t *testing.T) {
	var none *wal.Log
	refused(t, none.Append("a"), api.ErrNil)
	refused(t, new(wal.Log).Append("a"), api.ErrNil)
	l := opened(t, formatted(t, 6))
	done(t, l.Append("a"))
	refused(t, l.Append("b", strings.Repeat("x", api.MaxRecord+1), strings.Repeat("x", 600)), api.ErrLong)
	refused(t, l.Append("b", strings.Repeat("x", api.MaxRecord)), api.ErrFull)
	refused(t, l.Append(strings.Repeat("x", 512-8-6)), api.ErrFull)
	looks(t, l, 1, 504, 1)
	done(t, l.Append(strings.Repeat("x", 512-8-7)))
	looks(t, l, 1, 0, 2)
	refused(t, l.Append(""), api.ErrFull)
	done(t, l.Append())
	done(t, l.Sync())
	refused(t, l.Append(""), api.ErrFull)
	d := formatted(t, 6)
	l = opened(t, d)
	done(t, l.Append("a"))
	d.Limit(0)
	refused(t, l.Sync(), api.ErrPower)
	refused(t, l.Append(strings.Repeat("x", api.MaxRecord+1)), api.ErrPower)
	looks(t, l, 1, 504, 1)
}

func TestAppendTakesTheLongest(t *testing.T) {
	l := opened(t, formatted(t, 300))
	long := strings.Repeat("x", api.MaxRecord)
	done(t, l.Append(long))
	done(t, l.Sync())
	if r := l.Records(); len(r) != 1 || r[0] != long {
		t.Fatal("the longest record is not there")
	}
}

// P3.3

func TestSyncLaysFramesBehindOthers(t *testing.T) {
	d := formatted(t, 8)
	l := opened(t, d)
	if n := acts(t, d, l.Sync); n != 0 {
		t.Fatalf("%d acts of nothing", n)
	}
	d = formatted(t, 8)
	l = opened(t, d)
	write(t, d, 2, slices.Repeat([]byte{'y'}, api.Sector))
	done(t, l.Append("one"))
	done(t, l.Sync())
	one, _ := frame.Pack("one")
	if want := append([]byte(one), make([]byte, api.Sector-len(one))...); !slices.Equal(read(t, d, 2), want) {
		t.Fatalf("% x", read(t, d, 2))
	}
	if !slices.Equal(read(t, d, 0), headBytes(2, 0, uint32(len(one)))) {
		t.Fatalf("% x", read(t, d, 0))
	}
	done(t, l.Append(strings.Repeat("z", 300), "two"))
	if n := acts(t, d, l.Sync); n != 5 {
		t.Fatalf("%d acts; want two sectors, a flush, a head, a flush", n)
	}
}

func TestSyncWritesOnlySectorsOfWaitingFrames(t *testing.T) {
	d := formatted(t, 12)
	l := opened(t, d)
	done(t, l.Append(strings.Repeat("a", 256-7)))
	if n := acts(t, d, l.Sync); n != 4 {
		t.Fatalf("%d acts of a sector that is full", n)
	}
	d = d.Crash(-1, 0)
	l = opened(t, d)
	done(t, l.Append("b"))
	if n := acts(t, d, l.Sync); n != 4 {
		t.Fatalf("%d acts of the next sector", n)
	}
	looks(t, opened(t, d.Crash(-1, 0)), 3, 5*256-256-8, 0, strings.Repeat("a", 256-7), "b")
}

func TestSyncRefuses(t *testing.T) {
	var none *wal.Log
	refused(t, none.Sync(), api.ErrNil)
	for n := range 4 {
		d := formatted(t, 6)
		l := opened(t, d)
		done(t, l.Append("a"))
		d.Limit(n)
		e := l.Sync()
		refused(t, e, api.ErrPower)
		if e == error(api.ErrPower) {
			t.Fatal("it does not tell what was done")
		}
		looks(t, l, 1, 504, 1)
		refused(t, l.Sync(), api.ErrPower)
	}
}

// P3.4

func TestCompactLaysTheOtherHalf(t *testing.T) {
	d := formatted(t, 9) // a sector is left over
	l := opened(t, d)
	done(t, l.Append("a", "b"))
	done(t, l.Sync())
	done(t, l.Append("waits"))
	if n := acts(t, d, func() error { return l.Compact("c") }); n != 4 {
		t.Fatalf("%d acts", n)
	}
	d = d.Crash(-1, 0)
	c, _ := frame.Pack("c")
	if !slices.Equal(read(t, d, 5), append([]byte(c), make([]byte, api.Sector-len(c))...)) || !slices.Equal(read(t, d, 1), headBytes(3, 1, 8)) {
		t.Fatalf("% x, % x", read(t, d, 5), read(t, d, 1))
	}
	looks(t, l, 3, 760, 0, "c")
	l = opened(t, d)
	looks(t, l, 3, 760, 0, "c")
	done(t, l.Compact())
	looks(t, l, 4, 768, 0)
	looks(t, opened(t, d), 4, 768, 0)
}

func TestCompactRefuses(t *testing.T) {
	var none *wal.Log
	refused(t, none.Compact("a"), api.ErrNil)
	d := formatted(t, 6)
	l := opened(t, d)
	done(t, l.Append("a"))
	refused(t, l.Compact(strings.Repeat("x", 513), strings.Repeat("x", api.MaxRecord+1)), api.ErrLong)
	refused(t, l.Compact(strings.Repeat("x", 506)), api.ErrFull)
	looks(t, l, 1, 504, 1)
	done(t, l.Compact(strings.Repeat("x", 505)))
	looks(t, l, 2, 0, 0, strings.Repeat("x", 505))
	for n := range 4 {
		d := formatted(t, 6)
		l := opened(t, d)
		done(t, l.Append("a"))
		d.Limit(n)
		refused(t, l.Compact("b"), api.ErrPower)
		looks(t, l, 1, 504, 1)
		refused(t, l.Compact(strings.Repeat("x", api.MaxRecord+1)), api.ErrPower)
	}
}

// P3.5

func TestLooksOfNothing(t *testing.T) {
	var none *wal.Log
	looks(t, none, 0, 0, 0)
	looks(t, new(wal.Log), 0, 0, 0)
}

func TestListsAreTheCallersOwn(t *testing.T) {
	l := opened(t, formatted(t, 6))
	in := []string{"a", "b"}
	done(t, l.Append(in...))
	in[0] = "x"
	done(t, l.Sync())
	l.Records()[1] = "y"
	looks(t, l, 2, 512-16, 0, "a", "b")
	done(t, l.Compact(in...))
	in[1] = "z"
	looks(t, l, 3, 512-16, 0, "x", "b")
}
