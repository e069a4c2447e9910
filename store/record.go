package store

import (
	"errors"

	"calends/api"
)

// How many bytes numbers have in records.
const (
	tagBytes   = 1
	byteBytes  = 1
	lenBytes   = 2
	seqBytes   = 4
	stampBytes = 6
	wordBytes  = 8
)

// What a record is, by its first byte.
const (
	pushTag = iota + 1
	issueTag
	leftTag
	cellTag
)

// errRecord is that a record is none.
var errRecord = errors.New("no record")

// record is what is kept in the log: done again when a store is opened.
type record interface {
	// do changes a store, unless the record can't come there.
	do(s *Store) error
}

// pushed is a push.
type pushed struct{ api.Push }

// issued is a token.
type issued struct{ token int }

// left is what a Compact leaves of tokens and devices, and of how many cells the state is.
type left struct {
	issued int
	seqs   [api.MaxDevs + 1]int
	tokens []int
	cells  int
}

// leftCell is a cell of that state.
type leftCell struct{ api.Cell }

func (r pushed) do(s *Store) error {
	if s.missing > 0 || !May(r.Push) || r.Seq <= s.seqs[r.Dev] {
		return errRecord
	}
	s.push(r.Push)
	return nil
}

func (r issued) do(s *Store) error {
	if s.missing > 0 || r.token != s.issued+1 {
		return errRecord
	}
	s.issued = r.token
	s.hold(r.token)
	return nil
}

func (r left) do(s *Store) error {
	fresh := len(s.history) == 1 && len(s.states[root]) == 0 && s.issued == 0 && s.missing == 0
	if !fresh || len(r.tokens) > maxTokens || r.issued < 0 {
		return errRecord
	}
	last := 0
	for _, token := range r.tokens {
		if token <= last || token > r.issued {
			return errRecord
		}
		s.hold(token)
		last = token
	}
	for _, seq := range r.seqs {
		if seq > api.MaxSeq {
			return errRecord
		}
	}
	s.issued, s.seqs, s.missing = r.issued, r.seqs, r.cells
	return nil
}

func (r leftCell) do(s *Store) error {
	l := s.states[root]
	if s.missing == 0 || r.Dev < 1 || r.Dev > api.MaxDevs || !mayCell(r.Cell) {
		return errRecord
	}
	if n := len(l); n > 0 && (r.Thing < l[n-1].Thing || r.Thing == l[n-1].Thing && r.Key <= l[n-1].Key) {
		return errRecord
	}
	s.states[root] = append(l, r.Cell)
	s.missing--
	return nil
}

// encoded is a record's bytes.
func encoded(r record) string {
	var w writer
	switch x := r.(type) {
	case pushed:
		w.number(pushTag, tagBytes)
		w.number(x.Dev, byteBytes)
		w.number(x.Seq, seqBytes)
		w.number(x.Token, wordBytes)
		w.number(len(x.Cells), byteBytes)
		for _, c := range x.Cells {
			w.cell(c)
		}
	case issued:
		w.number(issueTag, tagBytes)
		w.number(x.token, wordBytes)
	case left:
		w.number(leftTag, tagBytes)
		w.number(x.issued, wordBytes)
		for _, seq := range x.seqs[1:] {
			w.number(seq, seqBytes)
		}
		w.number(x.cells, wordBytes)
		for _, token := range x.tokens {
			w.number(token, wordBytes)
		}
	case leftCell:
		w.number(cellTag, tagBytes)
		w.number(x.Dev, byteBytes)
		w.cell(x.Cell)
	}
	return w.String()
}

// decoded is the record that bytes are.
func decoded(s string) (record, error) {
	r := reader{rest: s}
	var x record
	switch r.number(tagBytes) {
	case pushTag:
		p := api.Push{Dev: r.number(byteBytes), Seq: r.number(seqBytes), Token: r.number(wordBytes)}
		for range r.number(byteBytes) {
			p.Cells = append(p.Cells, r.cell(p.Dev))
		}
		x = pushed{p}
	case issueTag:
		x = issued{r.number(wordBytes)}
	case leftTag:
		l := left{issued: r.number(wordBytes)}
		for dev := range api.MaxDevs {
			l.seqs[dev+1] = r.number(seqBytes)
		}
		l.cells = r.number(wordBytes)
		for r.rest != "" && !r.bad {
			l.tokens = append(l.tokens, r.number(wordBytes))
		}
		x = l
	case cellTag:
		x = leftCell{r.cell(r.number(byteBytes))}
	default:
		r.bad = true
	}
	if r.bad || r.rest != "" {
		return nil, errRecord
	}
	return x, nil
}
