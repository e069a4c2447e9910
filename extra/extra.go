// Package extra tells whether the properties that an entry or a card has beside its known ones are right.
package extra

import (
	"calends/api"
	"calends/line"
)

// Row is a property's row, and whether the property may stand.
func Row(p api.Prop) (string, bool) {
	row, e := line.Print(p)
	if e != nil || len(row) > api.MaxRow || p.Name == "BEGIN" || p.Name == "END" {
		return "", false
	}
	return row, true
}

// Right tells whether properties may stand, are sorted, are not too many, and none has a name that they may not have.
func Right(l []api.Prop, not func(name string) bool) bool {
	last := ""
	for _, p := range l {
		row, stands := Row(p)
		if !stands || not(p.Name) || row < last {
			return false
		}
		last = row
	}
	return len(l) <= api.MaxExtra
}
