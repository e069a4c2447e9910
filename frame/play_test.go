package frame_test

import (
	"hash/crc32"
	"slices"
	"testing"

	"calends/api"
	"calends/frame"
)

// dice are numbers that are the same in each run.
type dice uint64

func (d *dice) below(n int) int {
	*d = *d*6364136223846793005 + 1442695040888963407
	return int(uint64(*d)>>33) % n
}

func (d *dice) text(most int) string {
	b := make([]byte, d.below(most+1))
	for i := range b {
		b[i] = byte(d.below(256))
	}
	return string(b)
}

// plainFrame is a frame as the chapter tells it, with the library's sum.
func plainFrame(record string) []byte {
	n := len(record) + 1
	b := []byte{byte(n % 256), byte(n / 256 % 256), byte(n / 65536)}
	sum := crc32.ChecksumIEEE(append(slices.Clone(b), record...))
	return append(append(b, byte(sum), byte(sum>>8), byte(sum>>16), byte(sum>>24)), record...)
}

// plainScan takes frames off one by one, by trying for each the one frame that its size allows.
func plainScan(s string) ([]string, int) {
	var records []string
	at := 0
	for len(s)-at >= head {
		n := int(s[at]) + 256*int(s[at+1]) + 65536*int(s[at+2]) - 1
		if n < 0 || n > api.MaxRecord || at+head+n > len(s) {
			break
		}
		record := s[at+head : at+head+n]
		if string(plainFrame(record)) != s[at:at+head+n] {
			break
		}
		records = append(records, record)
		at += head + n
	}
	return records, at
}

// P2.1: sums are the library's, however the bytes are parted.
func TestSumsOfAll(t *testing.T) {
	d := dice(1)
	for range 2000 {
		var parts []string
		all := ""
		for range d.below(5) {
			part := d.text(30)
			parts = append(parts, part)
			all += part
		}
		if sum := frame.Sum(parts...); sum != crc32.ChecksumIEEE([]byte(all)) {
			t.Fatalf("Sum(%q): %#x", parts, sum)
		}
	}
}

// P2.2 to P2.7: of bytes that are packed, cut, turned and put together, Scan tells what a plain one does.
func TestPlays(t *testing.T) {
	for seed := range 3000 {
		d := dice(seed)
		var records []string
		var want []byte
		for range d.below(6) {
			record := d.text(1 + d.below(400))
			records = append(records, record)
			want = append(want, plainFrame(record)...)
		}
		s := packed(t, records...)
		if s != string(want) || frame.Size(records...) != len(want) {
			t.Fatalf("play %d: Pack of %q: %q", seed, records, s)
		}
		scans(t, s, len(s), records...)
		b := want
		switch d.below(4) {
		case 0:
			b = b[:d.below(len(b)+1)]
		case 1:
			for range 1 + d.below(3) {
				if len(b) > 0 {
					b[d.below(len(b))] = byte(d.below(256))
				}
			}
		case 2:
			b = append(b, d.text(20)...)
		case 3:
			b = b[d.below(len(b)+1):]
		}
		plain, n := plainScan(string(b))
		scans(t, string(b), n, plain...)
	}
}
