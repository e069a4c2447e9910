// Package flaw tells of what an error is: of a part, a property, a thing, or what was done.
package flaw

// Flaw is an error, with what it is of.
type Flaw struct {
	Of  string
	Err error
}

// In is an error of something.
func In(of string, e error) Flaw { return Flaw{Of: of, Err: e} }

// Error is its text.
func (f Flaw) Error() string { return f.Of + ": " + f.Err.Error() }

// Unwrap is the error that it wraps.
func (f Flaw) Unwrap() error { return f.Err }
