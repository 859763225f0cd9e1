package fact

import (
	"errors"

	"royalty/api"
	"royalty/wire"
)

// errForm is what a cursor panics with where a string has not the form of an encoding.
var errForm = errors.New("fact: not the form of an encoding")

// encoding returns the encoding of f, which is valid: none of its numbers, nor its text, is too large for wire.
func encoding(f api.Fact) string {
	var code []byte
	for _, n := range numbers(&f) {
		part, _ := wire.PutInt(*n)
		code = append(code, part...)
	}
	text, _ := wire.PutString(f.Text)
	return string(append(code, text...))
}

// cursor is a place in a string, from which its parts are read one after the other.
type cursor struct {
	s  string
	at int
}

// number reads the integer that begins at the cursor.
func (c *cursor) number() int {
	n, next, e := wire.Int(c.s, c.at)
	c.pass(next, e)
	return n
}

// text reads the string that begins at the cursor.
func (c *cursor) text() string {
	t, next, e := wire.String(c.s, c.at)
	c.pass(next, e)
	return t
}

// pass moves the cursor behind a part, or panics if the part could not be read.
func (c *cursor) pass(next int, e api.Errno) {
	if e != api.OK {
		panic(errForm)
	}
	c.at = next
}

// end panics if anything is left to be read.
func (c *cursor) end() {
	if c.at < len(c.s) {
		panic(errForm)
	}
}

// reader is a fact that is being read.
type reader struct {
	cursor
	api.Fact
}

// all reads all parts of the fact, in the order in which encoding writes them.
func (r *reader) all() {
	for _, n := range numbers(&r.Fact) {
		*n = r.number()
	}
	r.Text = r.text()
	r.end()
}

// read returns the fact, valid or not, whose parts s consists of, or ErrWire if there is none.
func read(s string) (f api.Fact, e api.Errno) {
	defer func() {
		if err, ok := recover().(error); ok && errors.Is(err, errForm) {
			f, e = api.Fact{}, api.ErrWire
		}
	}()
	r := reader{cursor: cursor{s: s}}
	r.all()
	return r.Fact, api.OK
}
