package frame_test

import (
	"errors"
	"slices"
	"strings"
	"testing"

	"calends/api"
	"calends/frame"
)

// head is how many bytes a frame has ahead of its record.
const head = 7

func packed(t *testing.T, records ...string) string {
	t.Helper()
	s, e := frame.Pack(records...)
	if e != nil {
		t.Fatalf("Pack of %d records: %v", len(records), e)
	}
	return s
}

func scans(t *testing.T, s string, bytes int, want ...string) {
	t.Helper()
	records, n := frame.Scan(s)
	if !slices.Equal(records, want) || n != bytes {
		t.Fatalf("Scan of %d bytes: %d records %.99q, %d; want %d records %.99q, %d", len(s), len(records), records, n, len(want), want, bytes)
	}
}

func tooLong(t *testing.T, records ...string) {
	t.Helper()
	s, e := frame.Pack(records...)
	if !errors.Is(e, api.ErrLong) || api.Place(e) != 0 || s != "" {
		t.Fatalf("Pack: %d bytes, %v; want none, and ErrLong without a place", len(s), e)
	}
	if n := frame.Size(records...); n != 0 {
		t.Fatalf("Size: %d; want 0", n)
	}
}

// of is n bytes, all kinds of them.
func of(n int) string {
	b := make([]byte, n)
	for i := range b {
		b[i] = byte(i * 7)
	}
	return string(b)
}

// framed is a frame as it is put together by hand: a number in three bytes, the sum of that and of a record, the record.
func framed(number int, record string) string {
	size := string([]byte{byte(number), byte(number >> 8), byte(number >> 16)})
	sum := frame.Sum(size + record)
	return size + string([]byte{byte(sum), byte(sum >> 8), byte(sum >> 16), byte(sum >> 24)}) + record
}

// P2.1

func TestSum(t *testing.T) {
	for text, want := range map[string]uint32{
		"":                 0,
		"123456789":        0xCBF43926,
		"a":                0xE8B7BE43,
		"abc":              0x352441C2,
		"\x00":             0xD202EF8D,
		"\x00\x00\x00\x00": 0x2144DF1C,
		"\xff\xff\xff\xff": 0xFFFFFFFF,
		"The quick brown fox jumps over the lazy dog": 0x414FA339,
	} {
		if sum := frame.Sum(text); sum != want {
			t.Errorf("Sum(%q): %#x; want %#x", text, sum, want)
		}
	}
}

func TestSumOfPartsIsThatOfAllBytes(t *testing.T) {
	if sum := frame.Sum(); sum != 0 {
		t.Errorf("Sum of nothing: %#x", sum)
	}
	for _, parts := range [][]string{{"123456789", ""}, {"", "123456789"}, {"1234", "56789"}, {"123", "", "", "456", "789"}, {"1", "2", "3", "4", "5", "6", "7", "8", "9"}} {
		if sum := frame.Sum(parts...); sum != 0xCBF43926 {
			t.Errorf("Sum(%q): %#x", parts, sum)
		}
	}
	if frame.Sum("ab", "c") == frame.Sum("c", "ab") {
		t.Error("the order of the parts is not to be seen")
	}
}

func TestSumTakesBytes(t *testing.T) {
	for _, text := range []string{"é", "日本", "\xff\xfe", "\xc3", of(256)} {
		var bytes []string
		for i := range len(text) {
			bytes = append(bytes, text[i:i+1])
		}
		if frame.Sum(bytes...) != frame.Sum(text) {
			t.Errorf("Sum(%q) is not that of its bytes", text)
		}
	}
}

// P2.2

func TestPack(t *testing.T) {
	for _, c := range []struct {
		records []string
		want    string
	}{
		{nil, ""},
		{[]string{""}, "\x01\x00\x00\x25\xb3\x83\xfe"},
		{[]string{"a"}, "\x02\x00\x00\x59\x46\xf8\xb1a"},
		{[]string{"a", "", "bc"}, framed(2, "a") + framed(1, "") + framed(3, "bc")},
		{[]string{of(254)}, framed(255, of(254))},
		{[]string{of(255)}, framed(256, of(255))},
		{[]string{of(256), of(511)}, framed(257, of(256)) + framed(512, of(511))},
		{[]string{of(api.MaxRecord)}, framed(api.MaxRecord+1, of(api.MaxRecord))},
	} {
		got := packed(t, c.records...)
		if got != c.want {
			t.Errorf("Pack of %d records: %.40q; want %.40q", len(c.records), got, c.want)
		}
		if n := frame.Size(c.records...); n != len(c.want) {
			t.Errorf("Size of %d records: %d; want %d", len(c.records), n, len(c.want))
		}
	}
}

func TestPackOfOneByte(t *testing.T) {
	if s := packed(t, "a"); len(s) != 8 || s[0] != 2 || s[1] != 0 || s[2] != 0 || s[7] != 'a' {
		t.Errorf("Pack(a): %q", s)
	}
}

func TestPackRefusesWhatIsTooLong(t *testing.T) {
	most, more := of(api.MaxRecord), of(api.MaxRecord+1)
	for _, records := range [][]string{{more}, {"a", more}, {more, "a"}, {most, most, more}, {of(1 << 20)}} {
		tooLong(t, records...)
	}
	if n := frame.Size(most, most, most); n != 3*(head+api.MaxRecord) || n != len(packed(t, most, most, most)) {
		t.Errorf("Size: %d", n)
	}
}

func TestPackDoesNotChangeTheRecords(t *testing.T) {
	records := []string{"x", "", "yz"}
	packed(t, records...)
	frame.Size(records...)
	frame.Sum(records...)
	if !slices.Equal(records, []string{"x", "", "yz"}) {
		t.Errorf("%q", records)
	}
}

// P2.3

func TestScanOfWhatIsNoFrame(t *testing.T) {
	whole := packed(t, "abc")
	for _, s := range []string{"", "\x01", whole[:3], whole[:6], whole[:7], whole[:9], "abcdefghijkl", strings.Repeat("\xff", 50), whole[1:]} {
		scans(t, s, 0)
	}
}

func TestScanTellsAtMostMaxRecordBytes(t *testing.T) {
	most, more := of(api.MaxRecord), of(api.MaxRecord+1)
	good := packed(t, "x", most)
	scans(t, good, len(good), "x", most)
	scans(t, framed(api.MaxRecord+1, most), head+api.MaxRecord, most)
	scans(t, framed(api.MaxRecord+2, more), 0)
	scans(t, good+framed(api.MaxRecord+2, more)+good, len(good), "x", most)
	scans(t, framed(1<<16, of(1<<16-1)), 0)
}

func TestScanWantsTheRightSum(t *testing.T) {
	good := packed(t, "ab", "cd")
	for at := range 9 {
		bad := []byte(good)
		bad[9+at] ^= 0x10
		scans(t, string(bad), 9, "ab")
		bad = []byte(good)
		bad[at] ^= 0x10
		scans(t, string(bad), 0)
	}
}

func TestScanWantsTheSizeInTheSum(t *testing.T) {
	sum := frame.Sum("ab")
	s := "\x03\x00\x00" + string([]byte{byte(sum), byte(sum >> 8), byte(sum >> 16), byte(sum >> 24)}) + "ab"
	scans(t, s, 0)
}

// A size of nothing at all may not be taken for a record, whatever its sum.
func TestScanOfTheSizeNought(t *testing.T) {
	scans(t, framed(0, ""), 0)
	scans(t, framed(0, "abc"), 0)
	good := packed(t, "a")
	scans(t, good+framed(0, "")+good, len(good), "a")
}

func TestScanAnswersAreTheCallersOwn(t *testing.T) {
	s := packed(t, "a", "b")
	one, _ := frame.Scan(s)
	one[0] = "other"
	_ = append(one, "more")
	scans(t, s, len(s), "a", "b")
}

// P2.4

func TestScanOfPack(t *testing.T) {
	all := [][]string{{""}, {"", "", ""}, {"a"}, {"a", "b", ""}, {"\x00"}, {"\x00\x00", "\xff"}, {of(255), of(256), of(257)}, {packedText("x", "y"), "z"}}
	for _, records := range all {
		s := packed(t, records...)
		scans(t, s, len(s), records...)
		for _, behind := range []string{"\x00", "x", "\x01\x00\x00", "\xff\xff\xff\xff\xff\xff\xff\xff", s[1:]} {
			got, n := frame.Scan(s + behind)
			if n < len(s) || len(got) < len(records) || !slices.Equal(got[:len(records)], records) {
				t.Fatalf("Scan with %q behind: %q, %d; want it to begin with %q, %d", behind, got, n, records, len(s))
			}
		}
		more := append(slices.Clone(records), records...)
		scans(t, s+s, 2*len(s), more...)
	}
}

// packedText is records' frames, for records that are frames themselves.
func packedText(records ...string) string {
	s, _ := frame.Pack(records...)
	return s
}

// P2.5

func TestScanOfABeginning(t *testing.T) {
	records := []string{"abc", "", "d", of(40), "", "\x00\x00"}
	s := packed(t, records...)
	for cut := range len(s) + 1 {
		whole := 0
		for frame.Size(records[:whole]...) <= cut {
			whole++
			if whole > len(records) {
				break
			}
		}
		whole--
		scans(t, s[:cut], frame.Size(records[:whole]...), records[:whole]...)
	}
}

// P2.6

func TestScanOfBytesTurned(t *testing.T) {
	records := []string{"abc", "", "defgh", of(20), "x"}
	s := packed(t, records...)
	for at := range len(s) {
		for n := 1; n <= 4 && at+n <= len(s); n++ {
			for _, by := range []string{"\x01\x01\x01\x01", "\x80\x40\x20\x10", "\xff\xff\xff\xff", "\x03\xfe\x55\xaa"} {
				bad := []byte(s)
				for i := range n {
					bad[at+i] ^= by[i]
				}
				whole := ahead(at, records...)
				scans(t, string(bad), frame.Size(records[:whole]...), records[:whole]...)
			}
		}
	}
}

// ahead is how many records' frames end ahead of a byte.
func ahead(at int, records ...string) int {
	for i := range records {
		if frame.Size(records[:i+1]...) > at {
			return i
		}
	}
	return len(records)
}

func TestScanOfAnotherSumAndAnotherRecord(t *testing.T) {
	records := []string{"abc", "defgh", of(300)}
	s := packed(t, records...)
	for i, record := range records {
		from := frame.Size(records[:i]...)
		for by := 1; by < 256; by++ {
			bad := []byte(s)
			for k := range 4 {
				bad[from+3+k] ^= byte(by)
			}
			scans(t, string(bad), from, records[:i]...)
			bad = []byte(s)
			for k := range record {
				bad[from+head+k] ^= byte(by)
			}
			scans(t, string(bad), from, records[:i]...)
		}
	}
}

// P2.7

func TestNoughtsAreNoFrame(t *testing.T) {
	for _, records := range [][]string{nil, {""}, {"a", ""}, {"\x00", "\x00\x00\x00\x00"}, {of(254)}} {
		s := packed(t, records...)
		for _, n := range []int{1, 2, 3, 6, 7, 8, 14, 256, 70000} {
			scans(t, s+strings.Repeat("\x00", n), len(s), records...)
		}
	}
}
