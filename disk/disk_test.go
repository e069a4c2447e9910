package disk_test

import (
	"bytes"
	"errors"
	"math"
	"slices"
	"testing"

	"calends/api"
	"calends/disk"
)

// full is a sector's content: one byte all over.
func full(c byte) []byte { return bytes.Repeat([]byte{c}, api.Sector) }

// part is a content of n bytes of one kind, and the rest of another one.
func part(c byte, n int, rest byte) []byte {
	b := full(rest)
	copy(b, full(c)[:n])
	return b
}

func made(t *testing.T, n int) *disk.Disk {
	t.Helper()
	d, e := disk.New(n)
	if e != nil || d == nil {
		t.Fatalf("New(%d): %v, %v", n, d, e)
	}
	return d
}

func write(t *testing.T, d *disk.Disk, at int, c byte) {
	t.Helper()
	if e := d.Write(at, full(c)); e != nil {
		t.Fatalf("Write(%d): %v", at, e)
	}
}

func flush(t *testing.T, d *disk.Disk) {
	t.Helper()
	if e := d.Flush(); e != nil {
		t.Fatalf("Flush: %v", e)
	}
}

func reads(t *testing.T, d *disk.Disk, at int, want []byte) {
	t.Helper()
	if b, e := d.Read(at); e != nil || !bytes.Equal(b, want) {
		t.Fatalf("Read(%d): % x, %v; want % x", at, b, e, want)
	}
}

func dirty(t *testing.T, d *disk.Disk, want ...int) {
	t.Helper()
	if l := d.Dirty(); !slices.Equal(l, want) {
		t.Fatalf("Dirty: %v; want %v", l, want)
	}
}

func refused(t *testing.T, e error, want api.Errno) {
	t.Helper()
	if !errors.Is(e, want) || api.Place(e) != 0 {
		t.Fatalf("%v; want %v, without a place", e, want)
	}
}

// unread tells that a Read is refused, and answers nothing.
func unread(t *testing.T, d *disk.Disk, at int, want api.Errno) {
	t.Helper()
	b, e := d.Read(at)
	refused(t, e, want)
	if len(b) != 0 {
		t.Fatalf("Read(%d): %d bytes beside an error", at, len(b))
	}
}

// off makes the power go.
func off(t *testing.T, d *disk.Disk) {
	t.Helper()
	d.Limit(0)
	refused(t, d.Flush(), api.ErrPower)
	if !d.Off() {
		t.Fatal("the power is not gone")
	}
}

// P1.1

func TestNewHasItsSize(t *testing.T) {
	for _, n := range []int{1, 2, 3, 100, api.MaxSectors - 1, api.MaxSectors} {
		d := made(t, n)
		if d.Size() != n {
			t.Fatalf("Size: %d; want %d", d.Size(), n)
		}
		reads(t, d, 0, full(0))
		reads(t, d, n-1, full(0))
		unread(t, d, n, api.ErrRange)
		dirty(t, d)
		if d.Off() {
			t.Fatal("a new disk is off")
		}
	}
}

func TestNewRefusesOtherSizes(t *testing.T) {
	for _, n := range []int{0, -1, api.MaxSectors + 1, math.MaxInt, math.MinInt} {
		d, e := disk.New(n)
		refused(t, e, api.ErrArg)
		if d != nil {
			t.Fatalf("New(%d): a disk beside an error", n)
		}
	}
}

func TestNewDisksShareNothing(t *testing.T) {
	a, b := made(t, 2), made(t, 2)
	write(t, a, 0, 'x')
	flush(t, a)
	off(t, a)
	reads(t, b, 0, full(0))
	dirty(t, b)
	if b.Off() {
		t.Fatal("the other disk is off")
	}
}

// P1.2

func TestWriteIsReadAndDirty(t *testing.T) {
	d := made(t, 4)
	for _, at := range []int{3, 0, 2, 3} {
		write(t, d, at, byte('a'+at))
	}
	dirty(t, d, 0, 2, 3)
	for at, want := range [][]byte{full('a'), full(0), full('c'), full('d')} {
		reads(t, d, at, want)
	}
	write(t, d, 3, 'z')
	reads(t, d, 3, full('z'))
	dirty(t, d, 0, 2, 3)
}

func TestDirtyRises(t *testing.T) {
	d := made(t, api.MaxSectors)
	var want []int
	for at := api.MaxSectors - 1; at >= 0; at -= 3 {
		write(t, d, at, 1)
		want = append(want, at)
	}
	slices.Sort(want)
	dirty(t, d, want...)
}

func TestWriteOfTheSameContentIsDirty(t *testing.T) {
	d := made(t, 2)
	write(t, d, 1, 0)
	dirty(t, d, 1)
	flush(t, d)
	write(t, d, 1, 0)
	dirty(t, d, 1)
}

func TestFlushLeavesNothingDirty(t *testing.T) {
	d := made(t, 3)
	flush(t, d)
	write(t, d, 0, 'x')
	write(t, d, 2, 'y')
	flush(t, d)
	dirty(t, d)
	reads(t, d, 0, full('x'))
	reads(t, d, 1, full(0))
	reads(t, d, 2, full('y'))
	write(t, d, 0, 'z')
	dirty(t, d, 0)
	reads(t, d, 0, full('z'))
	reads(t, d.Crash(-1, 0), 0, full('x'))
}

func TestWriteRefuses(t *testing.T) {
	d := made(t, 3)
	write(t, d, 1, 'x')
	for _, n := range []int{0, 1, api.Sector - 1, api.Sector + 1, 2 * api.Sector} {
		refused(t, d.Write(1, make([]byte, n)), api.ErrArg)
		refused(t, d.Write(3, make([]byte, n)), api.ErrArg)
	}
	refused(t, d.Write(1, nil), api.ErrArg)
	for _, at := range []int{-1, 3, 4, math.MaxInt, math.MinInt} {
		refused(t, d.Write(at, full('y')), api.ErrRange)
		unread(t, d, at, api.ErrRange)
	}
	dirty(t, d, 1)
	reads(t, d, 0, full(0))
	reads(t, d, 1, full('x'))
	reads(t, d, 2, full(0))
}

func TestOffRefusesInOrder(t *testing.T) {
	d := made(t, 3)
	write(t, d, 1, 'x')
	off(t, d)
	refused(t, d.Write(9, nil), api.ErrArg)
	refused(t, d.Write(9, full('y')), api.ErrRange)
	refused(t, d.Write(1, full('y')), api.ErrPower)
	unread(t, d, 9, api.ErrRange)
	unread(t, d, -1, api.ErrRange)
	unread(t, d, 1, api.ErrPower)
	unread(t, d, 0, api.ErrPower)
	refused(t, d.Flush(), api.ErrPower)
	dirty(t, d, 1)
	if d.Size() != 3 {
		t.Fatalf("Size: %d; want 3", d.Size())
	}
}

func TestNothingIsKeptOfArgumentsAndAnswers(t *testing.T) {
	d := made(t, 2)
	b := full('x')
	if e := d.Write(0, b); e != nil {
		t.Fatal(e)
	}
	if !bytes.Equal(b, full('x')) {
		t.Fatal("Write changed what it was handed")
	}
	b[0] = 'y'
	reads(t, d, 0, full('x'))
	for range 2 {
		got, _ := d.Read(0)
		clear(got)
		_ = append(got, 'z')
		reads(t, d, 0, full('x'))
		reads(t, d, 1, full(0))
		d.Dirty()[0] = 1
		dirty(t, d, 0)
		other, _ := d.Read(1)
		other[0] = 'z'
		reads(t, d, 1, full(0))
		reads(t, d.Crash(0, 99, 0), 0, full('x'))
		if e := d.Flush(); e != nil {
			t.Fatal(e)
		}
		write(t, d, 0, 'x')
	}
}

func TestNil(t *testing.T) {
	for _, d := range []*disk.Disk{nil, new(disk.Disk)} {
		refused(t, d.Write(0, full('x')), api.ErrNil)
		refused(t, d.Write(-1, nil), api.ErrNil)
		unread(t, d, 0, api.ErrNil)
		unread(t, d, -1, api.ErrNil)
		refused(t, d.Flush(), api.ErrNil)
		dirty(t, d)
		d.Limit(0)
		refused(t, d.Flush(), api.ErrNil)
		if d.Crash(0, 1, 0) != nil || d.Size() != 0 || d.Off() {
			t.Fatal("a disk that nothing made answers something")
		}
	}
}

// P1.3

func TestLimitCountsActs(t *testing.T) {
	d := made(t, 3)
	d.Limit(3)
	write(t, d, 0, 'a')
	flush(t, d)
	write(t, d, 1, 'b')
	if d.Off() {
		t.Fatal("off ahead of the act behind the limit")
	}
	refused(t, d.Write(2, full('c')), api.ErrPower)
	if !d.Off() {
		t.Fatal("on behind the act behind the limit")
	}
	dirty(t, d, 1)
	c := d.Crash(-1, 0, 0, 1, 2)
	reads(t, c, 0, full('a'))
	reads(t, c, 1, full('b'))
	reads(t, c, 2, full(0))
}

func TestFlushBehindTheLimitFlushesNothing(t *testing.T) {
	d := made(t, 2)
	d.Limit(1)
	write(t, d, 1, 'x')
	refused(t, d.Flush(), api.ErrPower)
	dirty(t, d, 1)
	reads(t, d.Crash(-1, 0), 1, full(0))
	reads(t, d.Crash(-1, 0, 1), 1, full('x'))
}

func TestOnlyActsCount(t *testing.T) {
	d := made(t, 2)
	d.Limit(1)
	for range 3 {
		refused(t, d.Write(0, nil), api.ErrArg)
		refused(t, d.Write(2, full('x')), api.ErrRange)
		unread(t, d, 2, api.ErrRange)
		reads(t, d, 0, full(0))
		dirty(t, d)
		d.Crash(0, 1, 0)
		d.Size()
	}
	write(t, d, 0, 'x')
	for range 3 {
		refused(t, d.Write(0, nil), api.ErrArg)
		refused(t, d.Write(2, full('x')), api.ErrRange)
		reads(t, d, 0, full('x'))
		if d.Off() {
			t.Fatal("the power goes without an act")
		}
	}
	refused(t, d.Write(0, full('y')), api.ErrPower)
	if !d.Off() {
		t.Fatal("on behind the act behind the limit")
	}
}

func TestLimitIsSetAnew(t *testing.T) {
	d := made(t, 1)
	d.Limit(1)
	flush(t, d)
	d.Limit(2)
	flush(t, d)
	flush(t, d)
	d.Limit(0)
	if d.Off() {
		t.Fatal("Limit makes the power go")
	}
	d.Limit(math.MaxInt)
	flush(t, d)
	d.Limit(5)
	d.Limit(1)
	flush(t, d)
	refused(t, d.Flush(), api.ErrPower)
}

func TestThereIsNoLimitBelowNought(t *testing.T) {
	for _, n := range []int{-1, -2, math.MinInt} {
		d := made(t, 1)
		d.Limit(0)
		d.Limit(n)
		for range 1000 {
			write(t, d, 0, 'x')
			flush(t, d)
		}
		if d.Off() {
			t.Fatalf("Limit(%d): off", n)
		}
	}
}

func TestThePowerGoesForGood(t *testing.T) {
	d := made(t, 1)
	off(t, d)
	for _, n := range []int{5, -1, 0} {
		d.Limit(n)
		if !d.Off() {
			t.Fatalf("Limit(%d): on again", n)
		}
		refused(t, d.Write(0, full('x')), api.ErrPower)
		unread(t, d, 0, api.ErrPower)
		refused(t, d.Flush(), api.ErrPower)
	}
}

// P1.4

// torn is a disk of three sectors: 0 has a and, new, x; 1 noughts and, new, y; 2 has c.
func torn(t *testing.T) *disk.Disk {
	t.Helper()
	d := made(t, 3)
	write(t, d, 0, 'a')
	write(t, d, 2, 'c')
	flush(t, d)
	write(t, d, 0, 'x')
	write(t, d, 1, 'y')
	return d
}

func TestCrash(t *testing.T) {
	for _, c := range []struct {
		name      string
		torn, cut int
		kept      []int
		zero, one []byte
	}{
		{"nothing kept", -1, 0, nil, full('a'), full(0)},
		{"one kept", -1, 9, []int{1}, full('a'), full('y')},
		{"both kept, in any order, again", -1, 9, []int{1, 0, 1, 0}, full('x'), full('y')},
		{"not dirty, not there", 3, 9, []int{2, 3, -1, math.MaxInt, math.MinInt}, full('a'), full(0)},
		{"torn", 0, 2, nil, part('x', 2, 'a'), full(0)},
		{"torn with noughts", 1, 255, nil, full('a'), part('y', 255, 0)},
		{"torn at one", 0, 1, []int{1}, part('x', 1, 'a'), full('y')},
		{"torn at nought", 0, 0, nil, full('a'), full(0)},
		{"torn below nought", 0, -1, nil, full('a'), full(0)},
		{"torn far below nought", 0, math.MinInt, nil, full('a'), full(0)},
		{"torn at its end", 0, api.Sector, nil, full('x'), full(0)},
		{"torn behind its end", 0, api.Sector + 1, nil, full('x'), full(0)},
		{"torn far behind its end", 0, math.MaxInt, nil, full('x'), full(0)},
		{"torn and kept", 0, 2, []int{0}, full('x'), full(0)},
		{"torn and not dirty", 2, 2, nil, full('a'), full(0)},
		{"torn and not there", math.MaxInt, 2, nil, full('a'), full(0)},
		{"torn and far from there", math.MinInt, 2, nil, full('a'), full(0)},
	} {
		t.Run(c.name, func(t *testing.T) {
			d := torn(t)
			kept := slices.Clone(c.kept)
			found := d.Crash(c.torn, c.cut, kept...)
			if !slices.Equal(kept, c.kept) {
				t.Fatal("Crash changed what it was handed")
			}
			reads(t, found, 0, c.zero)
			reads(t, found, 1, c.one)
			reads(t, found, 2, full('c'))
			dirty(t, found)
			if found.Size() != 3 || found.Off() {
				t.Fatalf("of %d sectors, off: %v", found.Size(), found.Off())
			}
		})
	}
}

func TestCrashIsOnWithoutLimit(t *testing.T) {
	d := torn(t)
	d.Limit(1)
	limited := d.Crash(-1, 0)
	off(t, d)
	for _, found := range []*disk.Disk{limited, d.Crash(0, 2, 1)} {
		for range 5 {
			write(t, found, 2, 'z')
			flush(t, found)
		}
		if found.Off() {
			t.Fatal("off")
		}
		reads(t, found, 2, full('z'))
	}
	if !d.Off() {
		t.Fatal("the old disk is on again")
	}
}

func TestCrashLeavesTheOldDisk(t *testing.T) {
	d := torn(t)
	d.Limit(2)
	d.Crash(0, 2, 1)
	d.Crash(1, 300, 0, 1, 2)
	dirty(t, d, 0, 1)
	reads(t, d, 0, full('x'))
	reads(t, d, 1, full('y'))
	reads(t, d, 2, full('c'))
	reads(t, d.Crash(-1, 0), 0, full('a'))
	reads(t, d.Crash(-1, 0), 1, full(0))
	flush(t, d)
	flush(t, d)
	refused(t, d.Flush(), api.ErrPower)
}

// What a crash found is no longer dirty there, so that a second crash takes nothing of it away.
func TestCrashOfACrash(t *testing.T) {
	found := torn(t).Crash(0, 2, 1).Crash(0, 100, 0, 1, 2)
	reads(t, found, 0, part('x', 2, 'a'))
	reads(t, found, 1, full('y'))
	reads(t, found, 2, full('c'))
}

func TestChaptersExample(t *testing.T) {
	d := made(t, 3)
	write(t, d, 1, 'x')
	reads(t, d, 1, full('x'))
	dirty(t, d, 1)
	reads(t, d.Crash(1, 2), 1, part('x', 2, 0))
	reads(t, d.Crash(0, 0, 1), 1, full('x'))
	d.Limit(0)
	refused(t, d.Flush(), api.ErrPower)
	if !d.Off() {
		t.Fatal("on")
	}
}

// P1.5

func TestWhatWasFlushedIsThereBehindAnyCrash(t *testing.T) {
	d := made(t, 5)
	for at := range 5 {
		write(t, d, at, byte('a'+at))
	}
	flush(t, d)
	write(t, d, 1, 'x')
	write(t, d, 3, 'y')
	crashes := func(d *disk.Disk) {
		for at := -1; at <= 5; at++ {
			for _, cut := range []int{-1, 0, 7, api.Sector, api.Sector + 7} {
				for _, kept := range [][]int{nil, {at}, {1}, {3}, {0, 1, 2, 3, 4}} {
					found := d.Crash(at, cut, kept...)
					reads(t, found, 0, full('a'))
					reads(t, found, 2, full('c'))
					reads(t, found, 4, full('e'))
				}
			}
		}
	}
	crashes(d)
	off(t, d)
	crashes(d)
}

// P1.6

func TestACrashThatKeepsAllLeavesWhatIsRead(t *testing.T) {
	d := made(t, 40)
	for at := 0; at < 40; at += 3 {
		write(t, d, at, byte(at))
	}
	flush(t, d)
	for at := 0; at < 40; at += 2 {
		write(t, d, at, byte(100+at))
	}
	for _, at := range []int{-1, 0, 1, 2, 39} {
		found := d.Crash(at, 5, d.Dirty()...)
		for i := range 40 {
			b, e := d.Read(i)
			if e != nil {
				t.Fatal(e)
			}
			reads(t, found, i, b)
		}
	}
}

// P1.7

func TestCrashesDontHangOnEachOther(t *testing.T) {
	d := torn(t)
	a, b := d.Crash(-1, 0, 0, 1), d.Crash(0, 2)
	write(t, a, 0, 'p')
	write(t, a, 1, 'q')
	flush(t, a)
	write(t, a, 2, 'r')
	off(t, a)
	check := func() {
		t.Helper()
		reads(t, b, 0, part('x', 2, 'a'))
		reads(t, b, 1, full(0))
		reads(t, b, 2, full('c'))
		dirty(t, b)
		if b.Off() {
			t.Fatal("off")
		}
	}
	check()
	dirty(t, d, 0, 1)
	reads(t, d, 0, full('x'))
	write(t, d, 0, 's')
	write(t, d, 2, 't')
	check()
	flush(t, d)
	check()
	off(t, d)
	check()
	flush(t, b)
	check()
}

func TestWhatIsDoneWithACrashIsNotDoneWithTheOldDisk(t *testing.T) {
	d := torn(t)
	found := d.Crash(0, 2, 1)
	for at := range 3 {
		write(t, found, at, 'z')
	}
	flush(t, found)
	off(t, found)
	dirty(t, d, 0, 1)
	reads(t, d, 0, full('x'))
	reads(t, d, 1, full('y'))
	reads(t, d, 2, full('c'))
	reads(t, d.Crash(0, 2, 1), 0, part('x', 2, 'a'))
	if d.Off() {
		t.Fatal("off")
	}
}
