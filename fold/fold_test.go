package fold_test

import (
	"errors"
	"slices"
	"strings"
	"testing"
	"unicode/utf8"

	"calends/api"
	"calends/fold"
)

func folds(t *testing.T, want string, rows ...string) {
	t.Helper()
	if s, e := fold.Fold(rows...); e != nil || s != want {
		t.Fatalf("Fold(%.99q): %q, %v; want %q", rows, s, e, want)
	}
}

func unfolds(t *testing.T, s string, want ...api.Row) {
	t.Helper()
	if l, e := fold.Unfold(s); e != nil || !slices.Equal(l, want) {
		t.Fatalf("Unfold(%.99q): %v, %v; want %v", s, l, e, want)
	}
}

func fault(t *testing.T, e error, at int, want api.Errno) {
	t.Helper()
	var f *api.Fault
	if !errors.Is(e, want) || !errors.As(e, &f) || api.Place(e) != at {
		t.Fatalf("%v; want %v at %d", e, want, at)
	}
}

func unfolded(t *testing.T, s string, at int, want api.Errno) {
	t.Helper()
	l, e := fold.Unfold(s)
	fault(t, e, at, want)
	if len(l) != 0 {
		t.Fatal("rows beside an error")
	}
}

func x(n int) string { return strings.Repeat("x", n) }

// P4.1

func TestFold(t *testing.T) {
	folds(t, "")
	folds(t, "a\r\n", "a")
	folds(t, "a\r\nb c\r\n", "a", "b c")
	folds(t, x(75)+"\r\n", x(75))
	folds(t, x(75)+"\r\n x\r\n", x(76))
	folds(t, x(75)+"\r\n xxxxx\r\n", x(80))
	folds(t, x(75)+"\r\n "+x(74)+"\r\n", x(149))
	folds(t, x(75)+"\r\n "+x(74)+"\r\n x\r\n", x(150))
	folds(t, x(75)+"\r\n   b\r\n", x(75)+"  b")
}

func TestFoldKeepsLettersWhole(t *testing.T) {
	folds(t, x(74)+"\r\n é\r\n", x(74)+"é")
	folds(t, x(73)+"é\r\n", x(73)+"é")
	folds(t, x(72)+"\r\n \U0001F600\r\n", x(72)+"\U0001F600")
	folds(t, x(75)+"\r\n "+x(72)+"\r\n 日\r\n", x(147)+"日")
	// What is no letter of UTF-8 is bytes: a cut one, a lone one, a surrogate.
	folds(t, x(74)+"\xe6\r\n \x97\r\n", x(74)+"\xe6\x97")
	folds(t, x(74)+"\xff\r\n \xfe\r\n", x(74)+"\xff\xfe")
	folds(t, x(73)+"\xed\xa0\r\n \x80\r\n", x(73)+"\xed\xa0\x80")
}

func TestFoldRefuses(t *testing.T) {
	for _, bad := range []string{"", " a", "\ta", "a\nb", "a\rb", "\r\n", "a\n"} {
		s, e := fold.Fold("ok", bad, x(api.MaxRow+1))
		fault(t, e, 2, api.ErrForm)
		if s != "" {
			t.Fatal("a text beside an error")
		}
	}
	for _, bad := range []string{x(api.MaxRow + 1), " " + x(api.MaxRow), x(api.MaxRow) + "\n"} {
		_, e := fold.Fold(bad, "")
		fault(t, e, 1, api.ErrLong)
	}
	if s, e := fold.Fold(x(api.MaxRow)); e != nil || len(s) != api.MaxRow+2+3*67 {
		t.Fatalf("%d bytes, %v", len(s), e)
	}
}

// P4.2

func TestUnfold(t *testing.T) {
	unfolds(t, "")
	unfolds(t, "\n\r\n\n")
	unfolds(t, "a", api.Row{At: 1, Text: "a"})
	unfolds(t, "a\r\n b\n\nc", api.Row{At: 1, Text: "ab"}, api.Row{At: 4, Text: "c"})
	unfolds(t, "\na\n b\r\n\tc\nd\n", api.Row{At: 2, Text: "abc"}, api.Row{At: 5, Text: "d"})
	unfolds(t, "a\n \n b\n", api.Row{At: 1, Text: "ab"})
	unfolds(t, "a\n  b", api.Row{At: 1, Text: "a b"})
	unfolds(t, "a\r\r\nb\r", api.Row{At: 1, Text: "a\r"}, api.Row{At: 2, Text: "b\r"})
	unfolds(t, "a\rb\n\x00\xff\n", api.Row{At: 1, Text: "a\rb"}, api.Row{At: 2, Text: "\x00\xff"})
	unfolds(t, "a\n\r", api.Row{At: 1, Text: "a"}, api.Row{At: 2, Text: "\r"})
}

func TestUnfoldRefusesWhatGoesOnNothing(t *testing.T) {
	unfolded(t, " a", 1, api.ErrForm)
	unfolded(t, "\t", 1, api.ErrForm)
	unfolded(t, "\n a", 2, api.ErrForm)
	unfolded(t, "a\n\n b", 3, api.ErrForm)
	unfolded(t, "a\r\n\r\n \r\n", 3, api.ErrForm)
	unfolded(t, " "+x(api.MaxRow+1), 1, api.ErrForm)
}

func TestUnfoldRefusesLongRows(t *testing.T) {
	unfolds(t, x(api.MaxRow), api.Row{At: 1, Text: x(api.MaxRow)})
	unfolds(t, x(api.MaxRow-1)+"\n x", api.Row{At: 1, Text: x(api.MaxRow)})
	unfolds(t, x(api.MaxRow)+"\n \n", api.Row{At: 1, Text: x(api.MaxRow)})
	unfolded(t, "a\n"+x(api.MaxRow+1), 2, api.ErrLong)
	unfolded(t, "a\n"+x(api.MaxRow)+"\n \n y\n z\n", 4, api.ErrLong)
}

func TestUnfoldRefusesManyRows(t *testing.T) {
	most := strings.Repeat("a\n\n", api.MaxRows)
	if l, e := fold.Unfold(most); e != nil || len(l) != api.MaxRows {
		t.Fatalf("%d rows, %v", len(l), e)
	}
	if l, e := fold.Unfold(most[:len(most)-1] + " b\n\n\n"); e != nil || l[api.MaxRows-1].Text != "ab" {
		t.Fatalf("%v", e)
	}
	unfolded(t, most+"a", 2*api.MaxRows+1, api.ErrMany)
	unfolded(t, most+x(api.MaxRow+1), 2*api.MaxRows+1, api.ErrLong)
	unfolded(t, most+"\n\n a", 2*api.MaxRows+3, api.ErrForm)
}

// P4.3 to P4.5

// dice are numbers that are the same in each run.
type dice uint64

func (d *dice) below(n int) int {
	*d = *d*6364136223846793005 + 1442695040888963407
	return int(uint64(*d)>>33) % n
}

func (d *dice) row() string {
	letters := []string{"a", "b", " ", "\t", ":", "é", "日", "\U0001F600", "\xff", "\xe6\x97"}
	s := "X"
	for range d.below(400) {
		s += letters[d.below(len(letters))]
	}
	return s
}

func TestBack(t *testing.T) {
	for seed := range 500 {
		d := dice(seed)
		var rows []string
		var want []api.Row
		at := 1
		for range d.below(5) {
			row := d.row()
			one, e := fold.Fold(row)
			if e != nil {
				t.Fatal(e)
			}
			rows, want = append(rows, row), append(want, api.Row{At: at, Text: row})
			at += strings.Count(one, "\r\n")
		}
		s, e := fold.Fold(rows...)
		if e != nil {
			t.Fatal(e)
		}
		unfolds(t, s, want...)
		unfolds(t, strings.ReplaceAll(s, "\r\n", "\n"), want...)
		for _, line := range strings.SplitAfter(s, "\r\n") {
			whole := utf8.ValidString(strings.Join(rows, ""))
			if len(strings.TrimSuffix(line, "\r\n")) > api.MaxOctets || whole && !utf8.ValidString(line) {
				t.Fatalf("line %q", line)
			}
		}
	}
}

func TestUnfoldDoesNotHangOnFolds(t *testing.T) {
	for seed := range 300 {
		d := dice(seed)
		row := d.row()
		s := row[:1]
		for _, c := range []byte(row[1:]) {
			if d.below(3) == 0 {
				s += []string{"\r\n ", "\n\t", "\n "}[d.below(3)]
			}
			s += string([]byte{c})
		}
		unfolds(t, s, api.Row{At: 1, Text: row})
	}
}
