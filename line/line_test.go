package line_test

import (
	"errors"
	"reflect"
	"slices"
	"strings"
	"testing"

	"calends/api"
	"calends/line"
)

func parses(t *testing.T, s string, want api.Prop) {
	t.Helper()
	if p, e := line.Parse(s); e != nil || !same(p, want) {
		t.Fatalf("Parse(%.99q): %q, %v; want %q", s, p, e, want)
	}
}

// same tells whether properties are alike, be their empty lists nil or not.
func same(a, b api.Prop) bool {
	if a.Group != b.Group || a.Name != b.Name || a.Value != b.Value || len(a.Params) != len(b.Params) {
		return false
	}
	for i := range a.Params {
		if a.Params[i].Name != b.Params[i].Name || !slices.Equal(a.Params[i].Values, b.Params[i].Values) {
			return false
		}
	}
	return true
}

func unparsed(t *testing.T, s string, want api.Errno) {
	t.Helper()
	p, e := line.Parse(s)
	if !errors.Is(e, want) || api.Place(e) != 0 || !reflect.DeepEqual(p, api.Prop{}) {
		t.Fatalf("Parse(%.99q): %q, %v; want %v", s, p, e, want)
	}
}

func prints(t *testing.T, p api.Prop, want string) {
	t.Helper()
	if s, e := line.Print(p); e != nil || s != want || !line.Right(p) {
		t.Fatalf("Print(%q): %q, %v; want %q", p, s, e, want)
	}
}

func wrong(t *testing.T, p api.Prop) {
	t.Helper()
	if s, e := line.Print(p); !errors.Is(e, api.ErrArg) || s != "" || line.Right(p) {
		t.Fatalf("Print(%.99q): %q, %v", p, s, e)
	}
}

func prop(name, value string, params ...api.Param) api.Prop {
	return api.Prop{Name: name, Params: params, Value: value}
}

func param(name string, values ...string) api.Param { return api.Param{Name: name, Values: values} }

// params is so many parameters with one value each.
func params(n int) []api.Param {
	var l []api.Param
	for i := range n {
		l = append(l, param("P"+string(rune('A'+i)), "v"))
	}
	return l
}

// P5.1

func TestParse(t *testing.T) {
	parses(t, "a:", prop("A", ""))
	parses(t, "SUMMARY:x:y;z", prop("SUMMARY", "x:y;z"))
	parses(t, "x-9:\té\xff", prop("X-9", "\té\xff"))
	parses(t, "azAZ09-;zA=:1", prop("AZAZ09-", "1", param("ZA", "")))
	parses(t, "g.tel;Type=home,\"a;b\";x=a^^b:1", api.Prop{Group: "G", Name: "TEL", Params: []api.Param{param("TYPE", "home", "a;b"), param("X", "a^b")}, Value: "1"})
	parses(t, "a;x=:1", prop("A", "1", param("X", "")))
	parses(t, "a;x=,:1", prop("A", "1", param("X", "", "")))
	parses(t, "a;x=\"\",b:1", prop("A", "1", param("X", "", "b")))
	parses(t, "a;x=b=c d\t:1", prop("A", "1", param("X", "b=c d\t")))
	parses(t, "a;x=\"b:c,d;e\":1", prop("A", "1", param("X", "b:c,d;e")))
}

func TestParseOfEscapes(t *testing.T) {
	parses(t, "a;x=^n^'^^:^n", prop("A", "^n", param("X", "\n\"^")))
	parses(t, "a;x=^^n^N^,^:1", prop("A", "1", param("X", "^n^N^", "^")))
	parses(t, "a;x=\"^'\",\"^^^\":1", prop("A", "1", param("X", "\"", "^^")))
}

func TestParseRefusesOtherRows(t *testing.T) {
	for _, s := range []string{
		"", ":", "a", ".a:1", "a.:1", "a.b.c:1", "a b:1", " a:1", "a :1", "é:1", "a_b:1",
		"a;:1", "a;x:1", "a;=b:1", "a;x=b", "a;x=b;:1", "a;x=\"b:1", "a;x=\"b\"c:1", "a;x=b\"c\":1", "a;x=b\"c:1", "a;x y=b:1", "a;g.x=b:1",
		"a:\n", "a:\x7f", "a:\x00", "a:b\r", "a;x=\x01:1", "a;x=\"\n\":1", "a;x=\x7f:1",
	} {
		unparsed(t, s, api.ErrForm)
	}
}

func TestParseRefusesMany(t *testing.T) {
	unparsed(t, "a;x=1;X=2:v", api.ErrMany)
	unparsed(t, "a;x=1;y=2;x=1:v", api.ErrMany)
	values := strings.Repeat(",b", api.MaxParams-1)
	if p, e := line.Parse("a;x=b" + values + ":v"); e != nil || len(p.Params[0].Values) != api.MaxParams {
		t.Fatal(e)
	}
	unparsed(t, "a;x=b"+values+",b:v", api.ErrMany)
	most, _ := line.Print(prop("A", "v", params(api.MaxParams)...))
	if p, e := line.Parse(most); e != nil || len(p.Params) != api.MaxParams {
		t.Fatal(e)
	}
	unparsed(t, "a;ZZ=1"+most[1:], api.ErrMany)
	// Of both it is no row that is told.
	unparsed(t, "a;x=1;x=2", api.ErrForm)
	unparsed(t, "a;x=b"+values+",b:\n", api.ErrForm)
	unparsed(t, "a;x=1;x=2;y:v", api.ErrForm)
}

// P5.2

func TestPrint(t *testing.T) {
	prints(t, prop("A", ""), "A:")
	prints(t, api.Prop{Group: "G-1", Name: "A", Value: "\t;,:\""}, "G-1.A:\t;,:\"")
	prints(t, prop("A", "1", param("X", "", "b c"), param("Y", "a=b")), "A;X=,b c;Y=a=b:1")
	prints(t, prop("A", "1", param("X", "a;b", "a:b", "a,b", "a'b")), "A;X=\"a;b\",\"a:b\",\"a,b\",a'b:1")
	prints(t, prop("A", "1", param("X", "^", "\"", "\n", "^n", "\n;\"^")), "A;X=^^,^',^n,^^n,\"^n;^'^^\":1")
	prints(t, prop("A", "1", params(api.MaxParams)...), "A;PA=v;PB=v;PC=v;PD=v;PE=v;PF=v;PG=v;PH=v;PI=v;PJ=v;PK=v;PL=v;PM=v;PN=v;PO=v;PP=v;PQ=v;PR=v;PS=v;PT=v:1")
}

func TestWrongProperties(t *testing.T) {
	for _, p := range []api.Prop{
		{}, prop("", "1"), prop("a", "1"), prop("A.B", "1"), prop("A B", "1"), prop("É", "1"),
		{Group: "g", Name: "A"}, {Group: "G.", Name: "A"},
		prop("A", "\n"), prop("A", "\x7f"), prop("A", "\r"), prop("A", "\x1f"),
		prop("A", "1", param("X")), prop("A", "1", param("x", "1")), prop("A", "1", param("", "1")),
		prop("A", "1", param("X", "1", "\r")), prop("A", "1", param("X", "\x7f")), prop("A", "1", param("X", "\x00")),
		prop("A", "1", param("X", "1"), param("Y", "1"), param("X", "1")),
		prop("A", "1", params(api.MaxParams+1)...),
		prop("A", "1", param("X", make([]string, api.MaxParams+1)...)),
	} {
		wrong(t, p)
	}
	if !line.Right(prop("A", "1", param("X", make([]string, api.MaxParams)...))) {
		t.Fatal("as many values as there may be are not right")
	}
}

// P5.3

func gets(t *testing.T, p api.Prop, name, want string, found bool) {
	t.Helper()
	if s, ok := line.Get(p, name); s != want || ok != found {
		t.Fatalf("Get(%q): %q, %v", name, s, ok)
	}
}

func TestGet(t *testing.T) {
	p := prop("A", "1", param("X", "a", "b"), param("Y"), param("X", "c"), param("z", "d"), param("Y", "e"), param("W", ""))
	gets(t, p, "X", "a", true)
	gets(t, p, "x", "a", true)
	gets(t, p, "Y", "", false)
	gets(t, p, "W", "", true)
	gets(t, p, "Z", "", false)
	gets(t, p, "Q", "", false)
	gets(t, api.Prop{}, "X", "", false)
}

func with(t *testing.T, p, want api.Prop, name string, values ...string) {
	t.Helper()
	if got := line.With(p, name, values...); !same(got, want) {
		t.Fatalf("With(%q, %q): %q; want %q", name, values, got, want)
	}
}

func TestWith(t *testing.T) {
	p := api.Prop{Group: "G", Name: "A", Value: "1", Params: []api.Param{param("X", "a"), param("Y", "b"), param("X", "c")}}
	want := p
	want.Params = []api.Param{param("X", "d", "e"), param("Y", "b"), param("X", "c")}
	with(t, p, want, "X", "d", "e")
	with(t, p, want, "x", "d", "e")
	want.Params = []api.Param{param("Y", "b")}
	with(t, p, want, "X")
	want.Params = []api.Param{param("X", "a"), param("Y", "b"), param("X", "c"), param("Z", "d")}
	with(t, p, want, "z", "d")
	with(t, p, p, "Z")
	with(t, api.Prop{}, prop("", "", param("", "\n")), "", "\n")
	gets(t, line.With(p, "new", "v", "w"), "New", "v", true)
}

func TestWithSharesNothing(t *testing.T) {
	p := prop("A", "1", param("X", "a"), param("Y", "b"))
	values := []string{"c"}
	q := line.With(p, "X", values...)
	q.Params[0].Values[0], q.Params[1].Values[0], q.Params[1].Name = "z", "z", "Z"
	if values[0] != "c" || !same(p, prop("A", "1", param("X", "a"), param("Y", "b"))) {
		t.Fatal("what was handed in has changed")
	}
}

// P5.4 to P5.6

// dice are numbers that are the same in each run.
type dice uint64

func (d *dice) below(n int) int {
	*d = *d*6364136223846793005 + 1442695040888963407
	return int(uint64(*d)>>33) % n
}

func (d *dice) text(letters string, most int) string {
	b := make([]byte, d.below(most+1))
	for i := range b {
		b[i] = letters[d.below(len(letters))]
	}
	return string(b)
}

func TestBack(t *testing.T) {
	const names, texts = "ABZ09-", "aZ \t^n'\",;:=.\xc3\xa9\xff"
	for seed := range 3000 {
		d := dice(seed)
		p := api.Prop{Name: "N" + d.text(names, 4), Group: d.text(names, 2), Value: d.text(texts, 20)}
		for i := range d.below(4) {
			var values []string
			for range 1 + d.below(4) {
				values = append(values, d.text(texts+"\n", 8))
			}
			p.Params = append(p.Params, param("P"+string(rune('0'+i)), values...))
		}
		row, e := line.Print(p)
		if e != nil {
			t.Fatal(e)
		}
		parses(t, row, p)
	}
}

func TestAgain(t *testing.T) {
	const signs = "aB^n'\",;:=.:;"
	read := 0
	for seed := range 30000 {
		d := dice(seed)
		s := "a" + d.text(signs, 12)
		p, e := line.Parse(s)
		if e != nil {
			continue
		}
		read++
		row, e := line.Print(p)
		if e != nil {
			t.Fatalf("%q: %v", s, e)
		}
		parses(t, row, p)
		prints(t, p, row)
	}
	if read < 1000 {
		t.Fatalf("only %d of the rows are properties'", read)
	}
}

func TestLettersOfNames(t *testing.T) {
	for _, s := range []string{"group.name;type=a,b;value=c:d", "Group.Name;Type=a,b;Value=c:d", "GROUP.NAME;TYPE=a,b;VALUE=c:d"} {
		parses(t, s, api.Prop{Group: "GROUP", Name: "NAME", Params: []api.Param{param("TYPE", "a", "b"), param("VALUE", "c")}, Value: "d"})
	}
}
