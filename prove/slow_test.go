package prove_test

import (
	"math"
	"slices"
	"strconv"
	"strings"

	"filbert/api"
	"filbert/line"
	"filbert/word"
)

// slow is an automaton that may have any number of states, with a track for each of its variables. It is made with none of the calls that prove leans on, but of sums and outputs.
type slow struct {
	base int
	vars []int
	next [][]int
	ends []bool
}

// kinds: how many digits a base has.
func kinds(base int) int {
	if base == api.Fib {
		return 2
	}
	return base
}

// power: how many letters there are of so many tracks.
func power(base, tracks int) int {
	many := 1
	for range tracks {
		many *= kinds(base)
	}
	return many
}

// digits of a letter, the last track's counting least.
func digits(base, tracks, x int) []int {
	d := make([]int, tracks)
	for i := range tracks {
		d[tracks-1-i] = x % kinds(base)
		x /= kinds(base)
	}
	return d
}

// packed: the letter of digits.
func packed(base int, d []int) int {
	x := 0
	for _, e := range d {
		x = x*kinds(base) + e
	}
	return x
}

func ofAuto(a api.Auto, vars []int) slow {
	return slow{base: a.Base, vars: vars, next: a.Next, ends: a.Ends}
}

func (a slow) auto() api.Auto {
	return api.Auto{Base: a.base, Tracks: len(a.vars), Next: a.next, Ends: a.ends}
}

// walk makes an automaton of all that comes up from a beginning (or of the first ones, if there are more than most); a text tells apart what comes up.
func walk[S any](base int, vars []int, most int, start S, name func(S) string, next func(S, int) S, ends func(S) bool) slow {
	a := slow{base: base, vars: vars}
	numbers := map[string]int{name(start): 0}
	met := []S{start}
	for i := 0; i < min(len(met), most); i++ {
		row := make([]int, power(base, len(vars)))
		for x := range row {
			to := next(met[i], x)
			k := name(to)
			if _, known := numbers[k]; !known {
				numbers[k] = len(met)
				met = append(met, to)
			}
			row[x] = numbers[k]
		}
		a.next = append(a.next, row)
		a.ends = append(a.ends, ends(met[i]))
	}
	return a
}

func nameOf(nums []int) string {
	var s strings.Builder
	for _, n := range nums {
		s.WriteString(strconv.Itoa(n))
		s.WriteByte(' ')
	}
	return s.String()
}

// fewest states; they are numbered as walk meets them.
func (a slow) fewest() slow {
	class := make([]int, len(a.next))
	for i, end := range a.ends {
		if end {
			class[i] = 1
		}
	}
	for many := 0; ; {
		numbers := map[string]int{}
		finer := make([]int, len(class))
		for i, row := range a.next {
			mark := []int{class[i]}
			for _, to := range row {
				mark = append(mark, class[to])
			}
			k := nameOf(mark)
			if _, known := numbers[k]; !known {
				numbers[k] = len(numbers)
			}
			finer[i] = numbers[k]
		}
		class = finer
		if len(numbers) == many {
			break
		}
		many = len(numbers)
	}
	return walk(a.base, a.vars, math.MaxInt, 0,
		func(i int) string { return strconv.Itoa(class[i]) },
		func(i, x int) int { return a.next[i][x] },
		func(i int) bool { return a.ends[i] })
}

// meet makes the automaton of the right words of vars, among which are those of both, for which taken is so of what they take.
func meet(a, b slow, vars []int, taken func(byA, byB bool) bool) slow {
	base := a.base
	read := func(c slow, state, x int) int {
		d := digits(base, len(vars), x)
		var own []int
		for _, v := range c.vars {
			own = append(own, d[slices.Index(vars, v)])
		}
		return c.next[state][packed(base, own)]
	}
	wrong := []int{-1}
	return walk(base, vars, math.MaxInt, []int{0, 0, 0}, nameOf, func(at []int, x int) []int {
		if at[0] < 0 || base == api.Fib && at[2]&x != 0 {
			return wrong
		}
		to := []int{read(a, at[0], x), read(b, at[1], x), 0}
		if base == api.Fib {
			to[2] = x
		}
		return to
	}, func(at []int) bool { return at[0] >= 0 && taken(a.ends[at[0]], b.ends[at[1]]) }).fewest()
}

// flip of right words.
func (a slow) flip() slow {
	return meet(a, a, a.vars, func(is, _ bool) bool { return !is })
}

// some tells also whether no more than MaxSets sets came up; else there is none.
func (a slow) some(v int) (slow, bool) {
	track := slices.Index(a.vars, v)
	vars := slices.Concat(a.vars[:track], a.vars[track+1:])
	step := func(set []int, x int) []int {
		var to []int
		d := digits(a.base, len(vars), x)
		for e := range kinds(a.base) {
			y := packed(a.base, slices.Insert(slices.Clone(d), track, e))
			for _, state := range set {
				to = append(to, a.next[state][y])
			}
		}
		slices.Sort(to)
		return slices.Compact(to)
	}
	start := []int{0}
	for {
		more := slices.Concat(start, step(start, 0))
		slices.Sort(more)
		if more = slices.Compact(more); len(more) == len(start) {
			break
		}
		start = more
	}
	sets := walk(a.base, vars, api.MaxSets+1, start, nameOf, step, func(set []int) bool {
		return slices.ContainsFunc(set, func(state int) bool { return a.ends[state] })
	})
	if len(sets.next) > api.MaxSets {
		return slow{}, false
	}
	return sets.fewest(), true
}

// Why there would be too much.
const (
	letters  = "letters"
	leaf     = "states of a node without parts"
	flipped  = "states of a Not"
	joined   = "states of an And or Or"
	sets     = "sets of a Some"
	found    = "states of a Some"
	turned   = "states of what is flipped below an All"
	setsOf   = "sets of an All"
	foundOf  = "states of Some below an All"
	turnedBy = "states of an All"
)

// prover makes automata of trees by slow, and notes why there would be too much, if so.
type prover struct {
	base  int
	words []api.Out
	full  string
}

// note that there would be too much, if an automaton has more than MaxStates.
func (p *prover) note(a slow, why string) slow {
	if len(a.next) > api.MaxStates {
		p.full = why
	}
	return a
}

// leaf of a node that speaks of one number, or of a sum.
func (p *prover) leaf(n api.Node, vars []int) slow {
	a, err := api.Auto{}, error(nil)
	if n.Op == api.At {
		a, err = word.Is(p.words[n.Word], n.Num)
	} else {
		coefs := slices.DeleteFunc(slices.Clone(n.Coefs), func(coef int) bool { return coef == 0 })
		a, err = line.Of(p.base, coefs, n.Num, n.Op == api.Lt)
	}
	if err != nil {
		p.full = leaf
	}
	return ofAuto(a, vars)
}

// like: both say the same, whichever of all that may be said it is.
func (p *prover) like(n api.Node, vars []int) slow {
	var either slow
	for out := range api.MaxOut + 1 {
		a := p.leaf(api.Node{Op: api.At, Word: n.Word, Num: out}, []int{n.Var})
		b := p.leaf(api.Node{Op: api.At, Word: n.Word2, Num: out}, []int{n.Other})
		say := meet(a, b, vars, and)
		if out == 0 {
			either = say
		}
		either = meet(either, say, vars, or)
	}
	return p.note(either, leaf)
}

func and(byA, byB bool) bool { return byA && byB }

func or(byA, byB bool) bool { return byA || byB }

// of a tree. Once there is too much, what comes is none.
func (p *prover) of(x tree) slow {
	vars := x.free()
	var parts []slow
	for _, kid := range x.kids {
		part := p.of(kid)
		if p.full != "" {
			return slow{}
		}
		parts = append(parts, part)
	}
	if power(p.base, len(vars)) > api.MaxLetters {
		p.full = letters
		return slow{}
	}
	switch n := x.node; n.Op {
	case api.Like:
		return p.like(n, vars)
	case api.Not:
		return p.note(parts[0].flip(), flipped)
	case api.And:
		return p.note(meet(parts[0], parts[1], vars, and), joined)
	case api.Or:
		return p.note(meet(parts[0], parts[1], vars, or), joined)
	case api.Some:
		return p.some(n.Var, parts[0], sets, found)
	case api.All:
		return p.all(n.Var, parts[0])
	}
	return p.leaf(x.node, vars)
}

func (p *prover) some(v int, part slow, many, wide string) slow {
	if !slices.Contains(part.vars, v) {
		return part
	}
	some, ok := part.some(v)
	if !ok {
		p.full = many
	}
	return p.note(some, wide)
}

func (p *prover) all(v int, part slow) slow {
	if !slices.Contains(part.vars, v) {
		return part
	}
	if part = p.note(part.flip(), turned); p.full == "" {
		part = p.some(v, part, setsOf, foundOf)
	}
	if p.full == "" {
		part = p.note(part.flip(), turnedBy)
	}
	return part
}
