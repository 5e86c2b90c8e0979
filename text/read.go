package text

import (
	"errors"
	"strings"

	"filbert/api"
	"filbert/formula"
)

const (
	digits    = "0123456789"
	maxDigits = 3 // of a number
)

// stop tells at which byte a text can be read no further.
type stop struct{ place int }

// Error is the name of what is wrong.
func (s stop) Error() string { return api.ErrSyntax.Error() }

// reader goes through a text once, and never back: so it stops at the first byte with which no text of a formula can go on.
type reader struct {
	text  string
	place int
	nodes []api.Node
}

// total is what a sum counts.
type total struct {
	coefs [api.MaxVars]int
	num   int
}

// read makes nodes of a text; with an error it tells the place of what cannot be read.
func read(text string) (f []api.Node, place int, err error) {
	defer func() {
		fault := recover()
		if fault == nil {
			return
		}
		if e, ok := fault.(error); ok {
			var s stop
			if errors.As(e, &s) {
				f, place, err = nil, s.place, api.ErrSyntax
				return
			}
		}
		// A fault of the program itself is not to be told as one of the text.
		panic(fault)
	}()
	r := reader{text: text}
	r.claim()
	r.end()
	return r.nodes, 0, nil
}

// sees tells whether the next byte is one of some.
func (r *reader) sees(some string) bool {
	return r.place < len(r.text) && strings.IndexByte(some, r.text[r.place]) >= 0
}

// take goes on by the next byte, which must be one of some.
func (r *reader) take(some string) byte {
	if !r.sees(some) {
		panic(stop{r.place})
	}
	r.place++
	return r.text[r.place-1]
}

// end stops if something is left.
func (r *reader) end() {
	if r.place < len(r.text) {
		panic(stop{r.place})
	}
}

// add puts a node behind those that are there.
func (r *reader) add(n api.Node) { r.nodes = append(r.nodes, n) }

// claim reads a formula.
func (r *reader) claim() {
	switch {
	case r.sees("~"):
		r.not()
	case r.sees("("):
		r.both()
	case r.sees("EA"):
		r.bound()
	case r.sees("@"):
		r.output()
	default:
		r.compared()
	}
}

// not reads a formula that is denied.
func (r *reader) not() {
	r.take("~")
	r.add(api.Node{Op: api.Not})
	r.claim()
}

// both reads two formulas that are joined.
func (r *reader) both() {
	r.take("(")
	// The node stands ahead of its parts, but what it is comes to light between them.
	at := len(r.nodes)
	r.add(api.Node{Op: api.And})
	r.claim()
	if r.take("&|") == '|' {
		r.nodes[at].Op = api.Or
	}
	r.claim()
	r.take(")")
}

// bound reads a formula of some number, or of all.
func (r *reader) bound() {
	n := api.Node{Op: api.Some}
	if r.take("EA") == 'A' {
		n.Op = api.All
	}
	n.Var = r.variable()
	r.take(":")
	r.add(n)
	r.claim()
}

// output reads what is claimed of a word's output.
func (r *reader) output() {
	n := api.Node{Op: api.At}
	n.Word, n.Var = r.lookup()
	r.take("=")
	if r.sees("@") {
		n.Op = api.Like
		n.Word2, n.Other = r.lookup()
	} else {
		n.Num = r.number()
	}
	r.add(n)
}

// lookup reads a word, and the variable at which it is looked up.
func (r *reader) lookup() (word, v int) {
	r.take("@")
	word = r.number()
	r.take("[")
	v = r.variable()
	r.take("]")
	return word, v
}

// compared reads two sums that are held against each other.
func (r *reader) compared() {
	var t total
	n := api.Node{Op: api.Eq}
	r.sum(&t, 1)
	if r.take("=<") == '<' {
		n.Op = api.Lt
	}
	r.sum(&t, -1)
	n.Coefs, n.Num = formula.Trim(t.coefs[:]), t.num
	r.add(n)
}

// sum reads parts with + between, and counts them, times sign, into a total.
func (r *reader) sum(t *total, sign int) {
	r.part(t, sign)
	for r.sees("+") {
		r.take("+")
		r.part(t, sign)
	}
}

// part reads a number, a variable, or both.
func (r *reader) part(t *total, sign int) {
	many := sign
	if r.sees(digits) {
		many = sign * r.number()
		if !r.sees(letters) {
			t.num += many
			return
		}
	}
	t.coefs[r.variable()] += many
}

// variable reads a variable.
func (r *reader) variable() int { return int(r.take(letters) - letters[0]) }

// number reads a number. Behind a first 0 it reads no further: it would be a needless one.
func (r *reader) number() int {
	n := r.digit()
	for many := 1; many < maxDigits && n > 0 && r.sees(digits); many++ {
		n = n*10 + r.digit()
	}
	return n
}

// digit reads a digit.
func (r *reader) digit() int { return int(r.take(digits) - digits[0]) }
