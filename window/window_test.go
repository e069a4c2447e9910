package window_test

import (
	"math"
	"testing"

	"calends/api"
	"calends/when"
	"calends/window"
)

func at(s string) api.Time {
	t, e := when.Parse(s)
	if e != nil {
		panic(s)
	}
	return t
}

func TestRight(t *testing.T) {
	a, b := at("20000101T000000Z"), at("20000101T000001Z")
	if !window.Right(a, b) || !window.Right(a, a) {
		t.Error("windows are none")
	}
	for _, c := range [][2]api.Time{{b, a}, {a, {}}, {{}, a}, {{UTC: true}, a}, {a, {UTC: true}}, {at("20000101"), b}, {a, at("20000102")}, {at("20000101T000000"), b}, {a, at("20000101T000001")}} {
		if window.Right(c[0], c[1]) {
			t.Errorf("%v is a window", c)
		}
	}
}

func TestNear(t *testing.T) {
	for n, want := range map[int]string{0: "00010101T000000Z", -1: "00010101T000000Z", math.MinInt: "00010101T000000Z", 86401: "00010102T000001Z", window.LastSecond: "99991231T235959Z", window.LastSecond + 1: "99991231T235959Z", math.MaxInt: "99991231T235959Z"} {
		if got := window.Near(n, api.Time{UTC: true}); got != at(want) {
			t.Errorf("Near(%d): %v", n, got)
		}
		if got := window.Near(n, at("20000101")); got != at(want[:8]) {
			t.Errorf("Near(%d): %v", n, got)
		}
	}
	if window.UTC(86400) != at("00010102T000000Z") || window.UTC(-1) != (api.Time{}) || window.UTC(window.LastSecond+1) != (api.Time{}) {
		t.Error("UTC")
	}
}

func TestBySeconds(t *testing.T) {
	a, b := at("20000101"), at("20000101T000001Z")
	if window.BySeconds(a, b) >= 0 || window.BySeconds(b, a) <= 0 || window.BySeconds(a, at("20000101T000000")) != 0 {
		t.Error("BySeconds")
	}
}
