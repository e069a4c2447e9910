package ascii_test

import (
	"testing"

	"calends/ascii"
)

func TestLetters(t *testing.T) {
	if s := ascii.Great("azAZ09@[`{é\xff"); s != "AZAZ09@[`{é\xff" {
		t.Errorf("Great: %q", s)
	}
	if s := ascii.Small("azAZ09@[`{É\xff"); s != "azaz09@[`{É\xff" {
		t.Errorf("Small: %q", s)
	}
}

func TestBytes(t *testing.T) {
	for c := range 256 {
		if ascii.MayStand(byte(c)) != (c == 9 || c > 31 && c != 127) || ascii.Digit(byte(c)) != (c > 47 && c < 58) {
			t.Errorf("byte %d", c)
		}
	}
	if !ascii.Stands("") || !ascii.Stands("a\té") || ascii.Stands("a\n") || ascii.Digits("") || ascii.Digits("1a") || !ascii.Digits("007") {
		t.Error("texts")
	}
}
