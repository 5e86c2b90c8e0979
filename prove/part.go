package prove

import (
	"slices"

	"filbert/api"
	"filbert/line"
	"filbert/pair"
	"filbert/right"
	"filbert/some"
	"filbert/track"
	"filbert/word"
)

// Ways to put two automata together (chapter 5): both are needed, or one is enough.
const (
	byBoth   = 1 << 3
	byEither = 1<<1 | 1<<2 | 1<<3
)

// part is a part of a claim: the least automaton of the right words of which it is so, with a track for each of its Free variables, in their order.
type part struct {
	api.Auto
	vars []int
}

// claim is a checked formula that is being read: what is left of it begins with a part.
type claim struct {
	base  int
	left  []api.Node
	words []api.Out
}

// next reads a part. Each part is made, even where another one tells all: that there would be too much of it must not go unseen.
func (c *claim) next() (part, error) {
	n := c.left[0]
	c.left = c.left[1:]
	switch n.Op {
	case api.Eq, api.Lt:
		return c.sum(n)
	case api.At:
		a, err := word.Is(c.words[n.Word], n.Num)
		return made(a, err, n.Var)
	case api.Like:
		return c.like(n)
	}
	first, err := c.next()
	if err != nil {
		return part{}, err
	}
	switch n.Op {
	case api.Not:
		return first.flip()
	case api.Some:
		return first.some(n.Var)
	case api.All:
		return first.all(n.Var)
	}
	second, err := c.next()
	if err != nil {
		return part{}, err
	}
	if n.Op == api.And {
		return join(first, second, byBoth)
	}
	return join(first, second, byEither)
}

// sum makes the part of an Eq or Lt.
func (c *claim) sum(n api.Node) (part, error) {
	var vars, coefs []int
	for v, coef := range n.Coefs {
		if coef != 0 {
			vars = append(vars, v)
			coefs = append(coefs, coef)
		}
	}
	a, err := line.Of(c.base, coefs, n.Num, n.Op == api.Lt)
	return made(a, err, vars...)
}

// like makes the part of a Like.
func (c *claim) like(n api.Node) (part, error) {
	o, p := c.words[n.Word], c.words[n.Word2]
	if n.Var == n.Other {
		a, err := word.Agree(o, p)
		return made(a, err, n.Var)
	}
	v, other := n.Var, n.Other
	if v > other {
		o, p, v, other = p, o, other, v
	}
	a, err := word.Like(o, p)
	return made(a, err, v, other)
}

// made is a part, if its automaton came without an error.
func made(a api.Auto, err error, vars ...int) (part, error) {
	if err != nil {
		return part{}, err
	}
	return part{a, vars}, nil
}

// flip makes the part that is so where p is not.
func (p part) flip() (part, error) {
	a, err := right.Flip(p.Auto)
	return made(a, err, p.vars...)
}

// some makes the part that is so where there is a number v with which p is.
func (p part) some(v int) (part, error) {
	at := slices.Index(p.vars, v)
	if at < 0 {
		return p, nil
	}
	a, err := some.Some(p.Auto, at)
	return made(a, err, slices.Delete(slices.Clone(p.vars), at, at+1)...)
}

// all makes the part that is so where p is with each number v.
func (p part) all(v int) (part, error) {
	if !slices.Contains(p.vars, v) {
		return p, nil
	}
	not, err := p.flip()
	if err != nil {
		return part{}, err
	}
	found, err := not.some(v)
	if err != nil {
		return part{}, err
	}
	return found.flip()
}

// join makes the part that is so as two parts together say.
func join(p, q part, how int) (part, error) {
	vars := slices.Concat(p.vars, q.vars)
	slices.Sort(vars)
	vars = slices.Compact(vars)
	a, err := p.spread(vars)
	if err != nil {
		return part{}, err
	}
	b, err := q.spread(vars)
	if err != nil {
		return part{}, err
	}
	all, err := right.All(p.Base, len(vars))
	if err != nil {
		return part{}, err
	}
	met, err := pair.Within(a, b, all, how)
	return made(met, err, vars...)
}

// spread makes p's automaton one with a track for each of vars, among which are all of p's. It takes any digits on the other tracks, right or not: so it has no more states than p, and is not too much where p is not.
func (p part) spread(vars []int) (api.Auto, error) {
	at := make([]int, p.Tracks)
	for i := range at {
		at[i] = slices.Index(vars, p.vars[i])
	}
	return track.Spread(p.Auto, len(vars), at)
}
