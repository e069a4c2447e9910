package world_test

import (
	"math"
	"reflect"
	"testing"

	"calends/alarm"
	"calends/api"
	"calends/bundle"
	"calends/busy"
	"calends/card"
	"calends/comp"
	"calends/dag"
	"calends/device"
	"calends/disk"
	"calends/event"
	"calends/fields"
	"calends/filter"
	"calends/fold"
	"calends/frame"
	"calends/greg"
	"calends/line"
	"calends/merge"
	"calends/query"
	"calends/recur"
	"calends/rule"
	"calends/server"
	"calends/store"
	"calends/text"
	"calends/wal"
	"calends/when"
	"calends/world"
	"calends/zone"
)

// calls are all that the chapters list, with objects as first arguments.
func calls() map[string]any {
	return map[string]any{
		"disk.New": disk.New, "disk.Write": (*disk.Disk).Write, "disk.Read": (*disk.Disk).Read, "disk.Flush": (*disk.Disk).Flush, "disk.Dirty": (*disk.Disk).Dirty, "disk.Crash": (*disk.Disk).Crash, "disk.Limit": (*disk.Disk).Limit, "disk.Size": (*disk.Disk).Size, "disk.Off": (*disk.Disk).Off,
		"frame.Sum": frame.Sum, "frame.Pack": frame.Pack, "frame.Scan": frame.Scan, "frame.Size": frame.Size,
		"wal.Format": wal.Format, "wal.Open": wal.Open, "wal.Append": (*wal.Log).Append, "wal.Sync": (*wal.Log).Sync, "wal.Compact": (*wal.Log).Compact, "wal.Records": (*wal.Log).Records, "wal.Waiting": (*wal.Log).Waiting, "wal.Room": (*wal.Log).Room, "wal.Turn": (*wal.Log).Turn,
		"fold.Fold": fold.Fold, "fold.Unfold": fold.Unfold, "line.Parse": line.Parse, "line.Print": line.Print, "line.Right": line.Right, "line.Get": line.Get, "line.With": line.With,
		"text.Escape": text.Escape, "text.Unescape": text.Unescape, "text.List": text.List, "text.Unlist": text.Unlist, "text.Fields": text.Fields, "text.Unfields": text.Unfields,
		"comp.Parse": comp.Parse, "comp.Print": comp.Print, "comp.All": comp.All, "comp.One": comp.One, "comp.Within": comp.Within, "comp.Rows": comp.Rows,
		"greg.Right": greg.Right, "greg.Long": greg.Long, "greg.Number": greg.Number, "greg.Of": greg.Of, "greg.Weekday": greg.Weekday, "greg.YearDay": greg.YearDay, "greg.Plus": greg.Plus, "greg.Week": greg.Week, "greg.Weeks": greg.Weeks, "greg.Between": greg.Between,
		"when.Right": when.Right, "when.Parse": when.Parse, "when.Print": when.Print, "when.Seconds": when.Seconds, "when.At": when.At, "when.Span": when.Span, "when.PrintSpan": when.PrintSpan, "when.Offset": when.Offset, "when.PrintOffset": when.PrintOffset, "when.Period": when.Period, "when.First": when.First,
		"rule.Right": rule.Right, "rule.Parse": rule.Parse, "rule.Print": rule.Print, "rule.Norm": rule.Norm, "recur.Fits": recur.Fits, "recur.Matches": recur.Matches, "recur.Expand": recur.Expand, "recur.Last": recur.Last, "recur.Is": recur.Is,
		"zone.Right": zone.Right, "zone.Read": zone.Read, "zone.Tell": zone.Tell, "zone.Offset": zone.Offset, "zone.Universal": zone.Universal, "zone.Local": zone.Local,
		"event.Right": event.Right, "event.Parse": event.Parse, "event.Print": event.Print, "event.Sorted": event.Sorted, "query.Instances": query.Instances, "query.Long": query.Long, "query.Moment": query.Moment,
		"card.Right": card.Right, "card.Parse": card.Parse, "card.Print": card.Print, "card.Best": card.Best, "fields.Read": fields.Read, "fields.Build": fields.Build, "fields.Register": fields.Register,
		"merge.Above": merge.Above, "merge.Norm": merge.Norm, "merge.Join": merge.Join, "merge.Three": merge.Three, "merge.Delta": merge.Delta, "merge.Below": merge.Below, "merge.Fields": merge.Fields, "merge.Listing": merge.Listing, "merge.Edit": merge.Edit, "merge.Top": merge.Top,
		"dag.Right": dag.Right, "dag.Reaches": dag.Reaches, "dag.Ancestors": dag.Ancestors, "dag.Common": dag.Common, "dag.Heads": dag.Heads, "dag.Path": dag.Path,
		"store.Format": store.Format, "store.Open": store.Open, "store.May": store.May, "store.Push": (*store.Store).Push, "store.Issue": (*store.Store).Issue, "store.Known": (*store.Store).Known, "store.At": (*store.Store).At, "store.State": (*store.Store).State, "store.Seq": (*store.Store).Seq, "store.History": (*store.Store).History, "store.Compact": (*store.Store).Compact, "store.Room": (*store.Store).Room,
		"server.New": server.New, "server.Take": (*server.Server).Take, "server.Limit": (*server.Server).Limit, "server.Crash": (*server.Server).Crash, "server.Up": (*server.Server).Up, "server.State": (*server.Server).State, "server.Listing": (*server.Server).Listing, "server.Known": (*server.Server).Known,
		"device.New": device.New, "device.Put": (*device.Device).Put, "device.Drop": (*device.Device).Drop, "device.Push": (*device.Device).Push, "device.Pull": (*device.Device).Pull, "device.Take": (*device.Device).Take, "device.State": (*device.Device).State, "device.Listing": (*device.Device).Listing, "device.Waiting": (*device.Device).Waiting, "device.Token": (*device.Device).Token,
		"world.New": world.New, "world.Do": (*world.World).Do, "world.State": (*world.World).State, "world.Listing": (*world.World).Listing, "world.Net": (*world.World).Net, "world.Up": (*world.World).Up, "world.Run": world.Run,
		"filter.Right": filter.Right, "filter.Parse": filter.Parse, "filter.Print": filter.Print, "filter.Match": filter.Match, "filter.Pick": filter.Pick, "filter.Fits": filter.Fits,
		"busy.Times": busy.Times, "busy.Merge": busy.Merge, "busy.Free": busy.Free, "busy.Print": busy.Print, "busy.Parse": busy.Parse, "busy.First": busy.First, "bundle.Pack": bundle.Pack, "bundle.Unpack": bundle.Unpack,
		"alarm.Rings": alarm.Rings, "alarm.Next": alarm.Next, "alarm.Due": alarm.Due,
	}
}

// any is a value of a type, often one that may not be.
func (d *dice) any(t reflect.Type, deep int) reflect.Value {
	v := reflect.New(t).Elem()
	switch t.Kind() {
	case reflect.Bool:
		v.SetBool(d.below(2) == 0)
	case reflect.Int:
		all := []int{0, 1, 2, 3, 4, 5, 6, 7, 12, 28, 31, 100, 2000, 2001, 9999, 40000, -1, -2, -5, 1 << 30, 1 << 40, 86400, 3652059 * 86400, math.MaxInt, math.MinInt, math.MaxInt - 1, d.below(60), d.below(3000)}
		v.SetInt(int64(all[d.below(len(all))]))
	case reflect.Uint8:
		v.SetUint(uint64(d.below(256)))
	case reflect.String:
		v.SetString(d.string())
	case reflect.Pointer:
		if made := d.object(t); made != nil {
			v.Set(reflect.ValueOf(made))
		}
	case reflect.Slice:
		n := d.below(4)
		if t.Elem().Kind() == reflect.Uint8 {
			n = []int{0, 1, api.Sector, 300}[d.below(4)]
		}
		for range n {
			if deep > 0 {
				v.Set(reflect.Append(v, d.any(t.Elem(), deep-1)))
			}
		}
	case reflect.Struct:
		if right, ok := d.right(t); ok {
			return right
		}
		for at := range t.NumField() {
			v.Field(at).Set(d.any(t.Field(at).Type, deep-1))
		}
	}
	return v
}

// right is a value of a type that may well be right, for some types.
func (d *dice) right(t reflect.Type) (reflect.Value, bool) {
	if d.below(2) == 0 {
		return reflect.Value{}, false
	}
	switch t {
	case reflect.TypeFor[api.Time]():
		return reflect.ValueOf(when.At(d.below(3652059)*86400, api.Time{UTC: d.below(3) > 0})), true
	case reflect.TypeFor[api.Rule]():
		r, e := rule.Parse([]string{"FREQ=DAILY", "FREQ=YEARLY;BYMONTH=2;BYMONTHDAY=30", "FREQ=SECONDLY;INTERVAL=7", "FREQ=MONTHLY;BYDAY=-1FR;COUNT=9999"}[d.below(4)])
		return reflect.ValueOf(r), e == nil
	case reflect.TypeFor[api.Object]():
		o, e := event.Parse(d.string())
		return reflect.ValueOf(o), e == nil
	case reflect.TypeFor[api.Card]():
		c, e := card.Parse(d.string())
		return reflect.ValueOf(c), e == nil
	case reflect.TypeFor[api.Comp]():
		l, e := comp.Parse(d.string())
		return reflect.ValueOf(append(l, api.Comp{})[0]), e == nil
	}
	return reflect.Value{}, false
}

// string is a text of some kind, perhaps spoilt.
func (d *dice) string() string {
	all := []string{"", "x", "X", "UID", "SUMMARY", "VEVENT", "VCARD", "0kind", "0uid", "2start", "7x/X:1", "A:1", "DTSTART;VALUE=DATE:20000101", "19970101T180000Z/PT1H", "P1DT2H", "+0100", "20000101", "20000101T100000Z", "FREQ=DAILY;COUNT=3", "a\\,b;c\n", "^n\"", "\xff\x00", rich, person, entry("a"), entry("a", "RRULE:FREQ=DAILY", "STATUS:TENTATIVE"), "(and (has SUMMARY) (not (kind VTODO)))", `(text A contains "x\"")`, "BEGIN:A\nEND:A\n", "BEGIN:VCALENDAR\nVERSION:2.0\nBEGIN:VFREEBUSY\nUID:u\nDTSTART:20000101T000000Z\nDTEND:20000102T000000Z\nFREEBUSY:20000101T010000Z/PT1H\nEND:VFREEBUSY\nEND:VCALENDAR\n"}
	s := all[d.below(len(all))]
	if n := d.below(len(s) + 3); d.below(3) == 0 && n < len(s) {
		s = s[:n] + string([]byte{byte(d.below(256))}) + s[n+d.below(len(s)-n):]
	}
	return s
}

// object is one of a type that calls make, or that none made.
func (d *dice) object(t reflect.Type) any {
	sectors := []int{6, 10, 60}[d.below(3)]
	raw, _ := disk.New(sectors)
	switch t {
	case reflect.TypeFor[*disk.Disk]():
		return []*disk.Disk{nil, new(disk.Disk), raw}[d.below(3)]
	case reflect.TypeFor[*wal.Log]():
		wal.Format(raw)
		made, _ := wal.Open(raw)
		return []*wal.Log{nil, new(wal.Log), made}[d.below(3)]
	case reflect.TypeFor[*store.Store]():
		store.Format(raw)
		made, _ := store.Open(raw)
		return []*store.Store{nil, new(store.Store), made}[d.below(3)]
	case reflect.TypeFor[*server.Server]():
		made, _ := server.New(sectors, 9000)
		return []*server.Server{nil, new(server.Server), made}[d.below(3)]
	case reflect.TypeFor[*device.Device]():
		return []*device.Device{nil, new(device.Device), device.New(1)}[d.below(3)]
	case reflect.TypeFor[*world.World]():
		made, _ := world.New(sectors, 9000, 2)
		return []*world.World{nil, new(world.World), made}[d.below(3)]
	}
	return nil
}

// copied is a copy that shares nothing, of what is no object.
func copied(v reflect.Value) reflect.Value {
	c := reflect.New(v.Type()).Elem()
	switch v.Kind() {
	case reflect.Slice:
		if v.IsNil() {
			return c
		}
		c.Set(reflect.MakeSlice(v.Type(), v.Len(), v.Len()))
		for at := range v.Len() {
			c.Index(at).Set(copied(v.Index(at)))
		}
	case reflect.Struct:
		for at := range v.NumField() {
			c.Field(at).Set(copied(v.Field(at)))
		}
	default:
		c.Set(v)
	}
	return c
}

// spoil changes all members of all lists of an answer.
func spoil(v reflect.Value) {
	switch v.Kind() {
	case reflect.Slice:
		for at := range v.Len() {
			spoil(v.Index(at))
			v.Index(at).SetZero()
		}
	case reflect.Struct:
		for at := range v.NumField() {
			spoil(v.Field(at))
		}
	}
}

// nothing tells whether an answer is a zero value, be its lists nil or empty.
func nothing(v reflect.Value) bool {
	return v.IsZero() || v.Kind() == reflect.Slice && v.Len() == 0
}

// P1, P2 and the rules that hold everywhere: no call panics, whatever it is given; beside an error there is nothing; what is handed in is not changed, and not shared with what is answered; and the same is answered again.
func TestHostileArguments(t *testing.T) {
	errors := reflect.TypeFor[error]()
	for name, call := range calls() {
		f := reflect.ValueOf(call)
		d := dice(len(name))
		for range 300 {
			var in, was []reflect.Value
			objects := false
			for at := range f.Type().NumIn() {
				v := d.any(f.Type().In(at), 6)
				objects = objects || v.Kind() == reflect.Pointer
				in, was = append(in, v), append(was, copied(v))
			}
			run := func() (out []reflect.Value) {
				defer func() {
					if p := recover(); p != nil {
						t.Fatalf("%s of %v panics: %v", name, was, p)
					}
				}()
				if f.Type().IsVariadic() {
					return f.CallSlice(in)
				}
				return f.Call(in)
			}
			out := run()
			var first []reflect.Value
			for _, v := range out {
				first = append(first, copied(v))
			}
			if n := len(out); n > 0 && out[n-1].Type() == errors && !out[n-1].IsNil() {
				for _, v := range out[:n-1] {
					if !nothing(v) {
						t.Fatalf("%s of %v: %v beside %v", name, was, v, out[n-1])
					}
				}
			}
			for at := range out {
				spoil(out[at])
			}
			for at := range in {
				if in[at].Kind() != reflect.Pointer && !reflect.DeepEqual(in[at].Interface(), was[at].Interface()) {
					t.Fatalf("%s: %v was handed in, and is %v", name, was[at], in[at])
				}
			}
			if objects {
				continue
			}
			for at, v := range run() {
				if v.Kind() != reflect.Pointer && v.Type() != errors && !reflect.DeepEqual(v.Interface(), first[at].Interface()) {
					t.Fatalf("%s of %v: first %v, then %v", name, was, first[at], v)
				}
			}
		}
	}
}
