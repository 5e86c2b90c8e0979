package text

import (
	"strconv"
	"strings"

	"filbert/api"
)

// show writes the formula with which nodes begin, and tells the nodes that are left behind it.
func show(f []api.Node) (string, []api.Node) {
	n, rest := f[0], f[1:]
	switch n.Op {
	case api.Not:
		part, rest := show(rest)
		return "~" + part, rest
	case api.And:
		return showBoth(rest, "&")
	case api.Or:
		return showBoth(rest, "|")
	case api.Some:
		part, rest := show(rest)
		return "E" + showVar(n.Var) + ":" + part, rest
	case api.All:
		part, rest := show(rest)
		return "A" + showVar(n.Var) + ":" + part, rest
	}
	return showPlain(n), rest
}

// showBoth writes the two formulas with which nodes begin, with a sign between.
func showBoth(f []api.Node, sign string) (string, []api.Node) {
	first, rest := show(f)
	second, rest := show(rest)
	return "(" + first + sign + second + ")", rest
}

// showPlain writes a node without parts.
func showPlain(n api.Node) string {
	switch n.Op {
	case api.Eq:
		return showSide(n, 1) + "=" + showSide(n, -1)
	case api.Lt:
		return showSide(n, 1) + "<" + showSide(n, -1)
	case api.At:
		return showOut(n.Word, n.Var) + "=" + strconv.Itoa(n.Num)
	}
	return showOut(n.Word, n.Var) + "=" + showOut(n.Word2, n.Other)
}

// showSide writes what a sum adds (of sign 1), or what it takes away (of sign -1).
func showSide(n api.Node, sign int) string {
	var parts []string
	for v, coef := range n.Coefs {
		many := coef * sign
		if many == 1 {
			parts = append(parts, showVar(v))
		} else if many > 1 {
			parts = append(parts, strconv.Itoa(many)+showVar(v))
		}
	}
	if num := n.Num * sign; num > 0 {
		parts = append(parts, strconv.Itoa(num))
	}
	if len(parts) == 0 {
		return "0"
	}
	return strings.Join(parts, "+")
}

// showOut writes the output of a word at a variable.
func showOut(word, v int) string {
	return "@" + strconv.Itoa(word) + "[" + showVar(v) + "]"
}

// showVar writes a variable.
func showVar(v int) string { return letters[v : v+1] }
