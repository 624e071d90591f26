package speech

import (
	"strconv"
	"strings"

	"lifelodge/api"
	"lifelodge/rule"
)

// reader takes a line word by word. It sticks at the first thing that is wrong:
// whatever is asked of it from there on tells nothing, and the error stays.
type reader struct {
	words []string // those that are still to be taken
	e     api.Errno
}

func begin(line string) *reader {
	if len(line) > api.MaxLine {
		return &reader{e: api.ErrLong}
	}
	return &reader{words: strings.Split(line, blank)}
}

func (r *reader) need(ok bool, e api.Errno) {
	if r.e == api.OK && !ok {
		r.e = e
	}
}

// request takes the words of a line of the table, in the table's order.
func (r *reader) request() api.Request {
	q := api.Request{Verb: r.verb()}
	switch q.Verb {
	case api.VerbNew:
		q.Name, q.Rule = r.name(), r.rule()
	case api.VerbSet:
		q.Name, q.Cells = r.place(), r.cells()
	case api.VerbGet, api.VerbCount, api.VerbBox:
		q.Name = r.place()
	case api.VerbStep:
		q.Name, q.N = r.place(), r.num()
	case api.VerbDrop:
		q.Name = r.name()
	case api.VerbCopy:
		q.Name, q.Other = r.place(), r.name()
	case api.VerbLease:
		q.Name, q.N = r.name(), r.num()
	}
	return q
}

func (r *reader) end() {
	r.need(len(r.words) == 0, api.ErrForm)
}

func (r *reader) word() string {
	r.need(len(r.words) > 0, api.ErrForm)
	if r.e != api.OK {
		return ""
	}
	word := r.words[0]
	r.words = r.words[1:]
	return word
}

func (r *reader) verb() int {
	verb := verbOf(r.word())
	r.need(verb != noVerb, api.ErrKind)
	return verb
}

// name copies the word: as a piece of the line it would hold on to all of it.
func (r *reader) name() string {
	word := r.word()
	r.need(Named(word), api.ErrForm)
	return strings.Clone(word)
}

// place copies the word, as name does.
func (r *reader) place() string {
	word := r.word()
	r.need(Named(word) || Keyed(word), api.ErrForm)
	return strings.Clone(word)
}

// rule has one error for every wrong text: which of chapter 2's it is, is not told.
func (r *reader) rule() api.Rule {
	read, e := rule.Read(r.word())
	r.need(e == api.OK, api.ErrForm)
	return read
}

func (r *reader) num() int {
	n, ok := numberOf(r.word())
	r.need(ok, api.ErrForm)
	return n
}

// cells takes all words that are left, for nothing stands behind cells.
func (r *reader) cells() []api.Cell {
	var cells []api.Cell
	for r.e == api.OK && len(r.words) > 0 {
		cells = append(cells, r.cell())
	}
	return cells
}

func (r *reader) cell() api.Cell {
	// A second comma stays in y, and without one y is empty: neither is a number.
	x, y, _ := strings.Cut(r.word(), comma)
	var c api.Cell
	var hasX, hasY bool
	c.X, hasX = numberOf(x)
	c.Y, hasY = numberOf(y)
	r.need(hasX && hasY, api.ErrForm)
	return c
}

// numberOf is the number whose text it is; false: it is none's, or too far from 0.
func numberOf(s string) (int, bool) {
	n, err := strconv.Atoi(s)
	// Atoi is content with a + or noughts ahead; the number's own text has none.
	ok := err == nil && strconv.Itoa(n) == s && -tooFar < n && n < tooFar
	return n, ok
}
