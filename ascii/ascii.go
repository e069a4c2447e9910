// Package ascii tells of a text's bytes: which letters they are, and whether they may stand in a row.
package ascii

// Great is a text with a to z as A to Z, and all else as it is.
func Great(s string) string { return turned(s, 'a', 'z', 'A') }

// Small is a text with A to Z as a to z, and all else as it is.
func Small(s string) string { return turned(s, 'A', 'Z', 'a') }

// Stands tells whether a text may stand in a row: its bytes are 9, or from 32 on, but not 127.
func Stands(s string) bool { return All(s, MayStand) }

// MayStand tells whether a byte may stand in a row.
func MayStand(c byte) bool { return c == '\t' || c >= ' ' && c != 127 }

// Digits tells whether a text is one digit or more, and nothing else.
func Digits(s string) bool { return s != "" && All(s, Digit) }

// Digit tells whether a byte is one.
func Digit(c byte) bool { return c >= '0' && c <= '9' }

// All tells whether all bytes of a text are such.
func All(s string, such func(byte) bool) bool {
	for at := range len(s) {
		if !such(s[at]) {
			return false
		}
	}
	return true
}

// turned is a text with the letters from first to last as those from other on.
func turned(s string, first, last, other byte) string {
	b := []byte(s)
	for at, c := range b {
		if c >= first && c <= last {
			b[at] = c - first + other
		}
	}
	return string(b)
}
