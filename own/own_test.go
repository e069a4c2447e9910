package own_test

import (
	"reflect"
	"testing"

	"calends/api"
	"calends/own"
)

func comp() api.Comp {
	p := api.Prop{Group: "G", Name: "A", Params: []api.Param{{Name: "X", Values: []string{"v", "w"}}}, Value: "1"}
	return api.Comp{Name: "C", Props: []api.Prop{p}, Comps: []api.Comp{{Name: "D", Props: []api.Prop{p}}}}
}

func TestCopiesShareNothing(t *testing.T) {
	was := comp()
	c := own.Comp(was)
	if !reflect.DeepEqual(c, was) {
		t.Fatalf("%v", c)
	}
	c.Props[0].Params[0].Values[0], c.Comps[0].Props[0].Params[0].Name, c.Comps[0].Name = "z", "z", "z"
	if !reflect.DeepEqual(was, comp()) {
		t.Fatalf("%v", was)
	}
	l := own.Props(was.Props)
	l[0].Params[0].Values[1] = "z"
	if !reflect.DeepEqual(was, comp()) || own.Props(nil) != nil || own.Comps([]api.Comp{}) != nil {
		t.Fatalf("%v", was)
	}
}

func TestContacts(t *testing.T) {
	was := api.Contact{Types: []string{"a"}, Rows: [][]string{{"b"}, nil}}
	c := own.Contact(was)
	if !reflect.DeepEqual(c, was) {
		t.Fatalf("%v", c)
	}
	c.Types[0], c.Rows[0][0] = "z", "z"
	if was.Types[0] != "a" || was.Rows[0][0] != "b" {
		t.Fatalf("%v", was)
	}
}
