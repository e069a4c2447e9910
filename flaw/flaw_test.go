package flaw_test

import (
	"errors"
	"testing"

	"calends/api"
	"calends/flaw"
)

func TestFlaw(t *testing.T) {
	e := error(flaw.In("outer", flaw.In("inner", api.ErrForm)))
	var f flaw.Flaw
	var n api.Errno
	if !errors.Is(e, api.ErrForm) || errors.Is(e, api.ErrArg) || !errors.As(e, &n) || n != api.ErrForm || !errors.As(e, &f) || f.Of != "outer" {
		t.Fatalf("%v, %v, %v", e, n, f)
	}
	if e.Error() != "outer: inner: error 11" || api.Place(e) != 0 {
		t.Fatal(e)
	}
}
