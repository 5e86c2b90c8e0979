package formula_test

import (
	"math"
	"math/rand"
	"slices"
	"testing"

	"filbert/api"
	"filbert/formula"
	"filbert/plain"
	"filbert/word"
)

var (
	ops     = []int{api.Eq, api.Lt, api.At, api.Like, api.Not, api.And, api.Or, api.Some, api.All}
	extreme = []int{math.MinInt, math.MinInt + 1, -1 << 40, -61, -13, -1, 0, 1, 2, 3, 4, 5, 9, 10, 12, 13, 60, 61, 1 << 40, math.MaxInt}
)

// Nodes as they are meant to be.
func eq(num int, coefs ...int) api.Node { return api.Node{Op: api.Eq, Num: num, Coefs: coefs} }
func lt(num int, coefs ...int) api.Node { return api.Node{Op: api.Lt, Num: num, Coefs: coefs} }
func at(w, v, num int) api.Node         { return api.Node{Op: api.At, Word: w, Var: v, Num: num} }
func like(w, v, w2, o int) api.Node {
	return api.Node{Op: api.Like, Word: w, Var: v, Word2: w2, Other: o}
}
func not() api.Node       { return api.Node{Op: api.Not} }
func and() api.Node       { return api.Node{Op: api.And} }
func or() api.Node        { return api.Node{Op: api.Or} }
func some(v int) api.Node { return api.Node{Op: api.Some, Var: v} }
func all(v int) api.Node  { return api.Node{Op: api.All, Var: v} }

// of lists nodes.
func of(f ...api.Node) []api.Node { return f }

// nots: so many of them, and a node behind.
func nots(many int, n api.Node) []api.Node {
	return append(slices.Repeat(of(not()), many), n)
}

func cloneNodes(f []api.Node) []api.Node {
	var c []api.Node
	for _, n := range f {
		n.Coefs = slices.Clone(n.Coefs)
		c = append(c, n)
	}
	return c
}

func equalNode(a, b api.Node) bool {
	return a.Op == b.Op && a.Var == b.Var && a.Other == b.Other && a.Word == b.Word && a.Word2 == b.Word2 && a.Num == b.Num && slices.Equal(a.Coefs, b.Coefs)
}

func equal(f, g []api.Node) bool { return slices.EqualFunc(f, g, equalNode) }

func cloneOuts(words []api.Out) []api.Out {
	var c []api.Out
	for _, o := range words {
		p := api.Out{Base: o.Base, Outs: slices.Clone(o.Outs)}
		for _, row := range o.Next {
			p.Next = append(p.Next, slices.Clone(row))
		}
		c = append(c, p)
	}
	return c
}

func equalOuts(a, b []api.Out) bool {
	return slices.EqualFunc(a, b, func(o, p api.Out) bool {
		return o.Base == p.Base && slices.Equal(o.Outs, p.Outs) && slices.EqualFunc(o.Next, p.Next, slices.Equal)
	})
}

func named(t *testing.T, names ...string) []api.Out {
	t.Helper()
	var words []api.Out
	for _, name := range names {
		o, err := word.Named(name)
		if err != nil {
			t.Fatal(err)
		}
		words = append(words, o)
	}
	return words
}

func wantCheck(t *testing.T, f []api.Node, place int, errno api.Errno) {
	t.Helper()
	was := cloneNodes(f)
	if got, err := formula.Check(f); got != place || plain.Told(err) != errno {
		t.Errorf("Check(%v): got %d %v, want %d %v", f, got, err, place, errno)
	}
	if !equal(f, was) {
		t.Errorf("%v was written into: %v", was, f)
	}
}

func wantFree(t *testing.T, f []api.Node, want ...int) {
	t.Helper()
	was := cloneNodes(f)
	if got, err := formula.Free(f); !slices.Equal(got, want) || err != nil {
		t.Errorf("Free(%v): got %v %v, want %v", f, got, err, want)
	}
	if !equal(f, was) {
		t.Errorf("%v was written into: %v", was, f)
	}
}

func wantEval(t *testing.T, f []api.Node, words []api.Out, nums []int, want bool) {
	t.Helper()
	wasF, wasWords, wasNums := cloneNodes(f), cloneOuts(words), slices.Clone(nums)
	if got, err := formula.Eval(f, words, nums); got != want || err != nil {
		t.Errorf("Eval(%v, %v, %v): got %v %v, want %v", f, words, nums, got, err, want)
	}
	if !equal(f, wasF) || !equalOuts(words, wasWords) || !slices.Equal(nums, wasNums) {
		t.Errorf("%v, %v or %v was written into: %v, %v, %v", wasF, wasWords, wasNums, f, words, nums)
	}
}

func wantNoEval(t *testing.T, f []api.Node, words []api.Out, nums []int, errno api.Errno) {
	t.Helper()
	if got, err := formula.Eval(f, words, nums); got || plain.Told(err) != errno {
		t.Errorf("Eval(%v, %v, %v): got %v %v, want %v", f, words, nums, got, err, errno)
	}
}

func rename(t *testing.T, f []api.Node, to []int) []api.Node {
	t.Helper()
	wasF, wasTo := cloneNodes(f), slices.Clone(to)
	got, err := formula.Rename(f, to)
	if err != nil {
		t.Fatalf("Rename(%v, %v): %v", f, to, err)
	}
	if !equal(f, wasF) || !slices.Equal(to, wasTo) {
		t.Errorf("%v or %v was written into: %v, %v", wasF, wasTo, f, to)
	}
	return got
}

func wantRename(t *testing.T, f []api.Node, to []int, want []api.Node) {
	t.Helper()
	if got := rename(t, f, to); !equal(got, want) {
		t.Errorf("Rename(%v, %v): got %v, want %v", f, to, got, want)
	}
}

func wantNoRename(t *testing.T, f []api.Node, to []int, errno api.Errno) {
	t.Helper()
	if got, err := formula.Rename(f, to); got != nil || plain.Told(err) != errno {
		t.Errorf("Rename(%v, %v): got %v %v, want %v", f, to, got, err, errno)
	}
}

func bound(t *testing.T, f []api.Node, v, to int) []api.Node {
	t.Helper()
	was := cloneNodes(f)
	got, err := formula.Bound(f, v, to)
	if err != nil {
		t.Fatalf("Bound(%v, %d, %d): %v", f, v, to, err)
	}
	if !equal(f, was) {
		t.Errorf("%v was written into: %v", was, f)
	}
	return got
}

func wantBound(t *testing.T, f []api.Node, v, to int, want []api.Node) {
	t.Helper()
	if got := bound(t, f, v, to); !equal(got, want) {
		t.Errorf("Bound(%v, %d, %d): got %v, want %v", f, v, to, got, want)
	}
}

func wantNoBound(t *testing.T, f []api.Node, v, to int, errno api.Errno) {
	t.Helper()
	if got, err := formula.Bound(f, v, to); got != nil || plain.Told(err) != errno {
		t.Errorf("Bound(%v, %d, %d): got %v %v, want %v", f, v, to, got, err, errno)
	}
}

// wantBad: Check tells place and error, and each other call that error ahead of whatever else is wrong.
func wantBad(t *testing.T, f []api.Node, place int, errno api.Errno) {
	t.Helper()
	wantCheck(t, f, place, errno)
	if got, err := formula.Free(f); got != nil || plain.Told(err) != errno {
		t.Errorf("Free(%v): got %v %v, want %v", f, got, err, errno)
	}
	for _, words := range [][]api.Out{nil, {{}}, make([]api.Out, api.MaxWords+1)} {
		wantNoEval(t, f, words, nil, errno)
		wantNoEval(t, f, words, []int{-1, 0, 0, 0, 0}, errno)
	}
	for _, to := range [][]int{nil, {0, 1, 2, 3, 4}, {0, 1, 2, 3, 5}, {0, 0, 1, 2, 3}, {0, 1, 2, 3, 4, 5}} {
		wantNoRename(t, f, to, errno)
	}
	for _, pair := range [][2]int{{0, 1}, {0, 0}, {-1, 5}, {math.MinInt, math.MaxInt}} {
		wantNoBound(t, f, pair[0], pair[1], errno)
	}
}

// tree is a formula whose parts hang below it.
type tree struct {
	node api.Node
	kids []tree
}

func (x tree) nodes() []api.Node {
	f := of(x.node)
	for _, kid := range x.kids {
		f = append(f, kid.nodes()...)
	}
	return cloneNodes(f)
}

// says tells whether a tree has this variable outside what is below a Some or All of it.
func (x tree) says(v int) bool {
	switch n := x.node; n.Op {
	case api.Eq, api.Lt:
		return v < len(n.Coefs) && n.Coefs[v] != 0
	case api.At:
		return n.Var == v
	case api.Like:
		return n.Var == v || n.Other == v
	case api.Some, api.All:
		return n.Var != v && x.kids[0].says(v)
	}
	return slices.ContainsFunc(x.kids, func(kid tree) bool { return kid.says(v) })
}

func (x tree) free() []int {
	var free []int
	for v := range api.MaxVars {
		if x.says(v) {
			free = append(free, v)
		}
	}
	return free
}

// grow makes a tree up to so deep out of what deal gives.
func grow(source *rand.Rand, deep int, binds bool) tree {
	most := 7
	if binds {
		most = 9
	}
	op := ops[source.Intn(most)]
	if deep == 0 {
		op = ops[source.Intn(4)]
	}
	x := tree{node: deal(source, op)}
	for range map[int]int{api.Not: 1, api.Some: 1, api.All: 1, api.And: 2, api.Or: 2}[op] {
		x.kids = append(x.kids, grow(source, deep-1, binds))
	}
	return x
}

// deal makes a node of an Op, with whatever it uses.
func deal(source *rand.Rand, op int) api.Node {
	n := api.Node{Op: op}
	switch op {
	case api.Eq, api.Lt:
		n.Num = source.Intn(2*api.MaxConst+1) - api.MaxConst
		for range source.Intn(api.MaxVars + 1) {
			n.Coefs = append(n.Coefs, source.Intn(5)-2)
		}
		for len(n.Coefs) > 0 && n.Coefs[len(n.Coefs)-1] == 0 {
			n.Coefs = n.Coefs[:len(n.Coefs)-1]
		}
	case api.At:
		n.Word, n.Var, n.Num = source.Intn(api.MaxWords), source.Intn(api.MaxVars), source.Intn(3)
	case api.Like:
		n.Word, n.Var = source.Intn(api.MaxWords), source.Intn(api.MaxVars)
		n.Word2, n.Other = source.Intn(api.MaxWords), source.Intn(api.MaxVars)
	case api.Some, api.All:
		n.Var = source.Intn(api.MaxVars)
	}
	return n
}

// eachTree calls f with many trees that are not too great.
func eachTree(binds bool, f func(source *rand.Rand, x tree)) {
	source := rand.New(rand.NewSource(12))
	for i := range 3000 {
		if x := grow(source, i%7, binds); len(x.nodes()) <= api.MaxNodes {
			f(source, x)
		}
	}
}

func TestCheckTakes(t *testing.T) {
	for _, f := range [][]api.Node{
		of(eq(0)), of(lt(0)), of(eq(-60)), of(lt(60)),
		of(eq(0, 1)), of(eq(0, 0, 0, 0, 0, -1)), of(lt(60, 12)), of(lt(-60, -12)),
		of(eq(0, 4, -2, 3, -1, 2)), of(eq(0, -6, 0, 0, 0, 6)),
		of(at(0, 0, 0)), of(at(2, 4, 9)), of(like(0, 0, 0, 0)), of(like(2, 4, 2, 4)), of(like(0, 4, 2, 0)),
		of(not(), eq(0)), of(and(), eq(0), lt(0)), of(or(), at(0, 0, 0), eq(0)),
		of(some(0), eq(0)), of(some(4), eq(0)), of(all(0), eq(0)), of(all(4), some(4), lt(0)),
		of(and(), or(), eq(1), eq(2), not(), eq(3)), of(or(), not(), and(), eq(1), eq(2), some(1), eq(3)),
		nots(api.MaxNodes-1, eq(0)),
		of(api.Node{Op: api.Not, Coefs: []int{}}, api.Node{Op: api.Eq, Coefs: []int{}}),
	} {
		wantCheck(t, f, 0, api.OK)
	}
	eachTree(true, func(_ *rand.Rand, x tree) { wantCheck(t, x.nodes(), 0, api.OK) })
}

func TestCheckSize(t *testing.T) {
	wantBad(t, nil, 0, api.ErrNone)
	wantBad(t, []api.Node{}, 0, api.ErrNone)
	wantBad(t, nots(api.MaxNodes, eq(0)), 0, api.ErrFull)
	wantBad(t, make([]api.Node, api.MaxNodes+1), 0, api.ErrFull)
	wantBad(t, make([]api.Node, api.MaxNodes), 0, api.ErrRange)
	wantBad(t, slices.Repeat(of(eq(0)), api.MaxNodes+1), 0, api.ErrFull)
	wantBad(t, nots(1000, not()), 0, api.ErrFull)
}

// badNodes: those that are wrong wherever they stand.
func badNodes() map[api.Errno][]api.Node {
	wrongRange := of(
		at(3, 0, 0), at(-1, 0, 0), at(0, 5, 0), at(0, -1, 0), at(0, 0, 10), at(0, 0, -1),
		like(3, 0, 0, 0), like(-1, 0, 0, 0), like(0, 5, 0, 0), like(0, -1, 0, 0),
		like(0, 0, 3, 0), like(0, 0, -1, 0), like(0, 0, 0, 5), like(0, 0, 0, -1),
		some(5), some(-1), all(5), all(-1),
	)
	for _, op := range []int{math.MinInt, -1, 0, 10, 11, math.MaxInt} {
		wrongRange = append(wrongRange, api.Node{Op: op})
	}
	for _, sum := range []func(num int, coefs ...int) api.Node{eq, lt} {
		wrongRange = append(wrongRange,
			sum(61), sum(-61), sum(math.MinInt), sum(math.MaxInt),
			sum(0, 13), sum(0, -13), sum(0, 6, -7), sum(0, 3, 3, 3, 3, 1), sum(0, -3, 3, -3, 3, -1),
			sum(0, math.MinInt), sum(0, math.MaxInt, math.MaxInt), sum(0, math.MinInt, math.MinInt), sum(0, math.MaxInt, 1, math.MinInt),
			sum(0, 0, 0, 0, 0, 0, 1), sum(0, 1, 1, 1, 1, 1, 1), sum(0, make([]int, 300)...),
			// A range is told ahead of a shape.
			sum(0, 13, 0), sum(61, 1, 0), sum(0, 0, 0, 0, 0, 0, 0),
			api.Node{Op: sum(0).Op, Num: 61, Var: 1}, api.Node{Op: sum(0).Op, Num: -61, Word2: 1},
		)
	}
	wrongRange = append(wrongRange,
		api.Node{Op: api.At, Num: 10, Coefs: []int{1}}, api.Node{Op: api.At, Var: 5, Other: 1}, api.Node{Op: api.At, Word: 3, Word2: 1},
		api.Node{Op: api.Like, Other: 5, Num: 1}, api.Node{Op: api.Some, Var: 5, Word: 1}, api.Node{Op: api.All, Var: -1, Coefs: []int{1}},
		api.Node{Op: 10, Var: 1}, api.Node{Op: 0, Num: 1, Coefs: []int{0}},
	)
	wrongShape := of(
		eq(0, 0), lt(0, 0), eq(0, 1, 0), lt(0, 1, -1, 0), eq(0, 0, 0, 0, 0, 0), lt(0, 3, 3, 3, 3, 0), eq(60, 12, 0),
	)
	for _, op := range ops {
		wrongShape = append(wrongShape, strays(op)...)
	}
	return map[api.Errno][]api.Node{api.ErrRange: wrongRange, api.ErrShape: wrongShape}
}

// strays: nodes of an Op with something that it does not use, whether another one could use it or not.
func strays(op int) []api.Node {
	uses := func(those ...int) bool { return slices.Contains(those, op) }
	var f []api.Node
	for _, n := range []int{math.MinInt, -1, 1, 2, 7, math.MaxInt} {
		if !uses(api.At, api.Like, api.Some, api.All) {
			f = append(f, api.Node{Op: op, Var: n})
		}
		if !uses(api.Like) {
			f = append(f, api.Node{Op: op, Other: n}, api.Node{Op: op, Word2: n})
		}
		if !uses(api.At, api.Like) {
			f = append(f, api.Node{Op: op, Word: n})
		}
		if !uses(api.Eq, api.Lt, api.At) {
			f = append(f, api.Node{Op: op, Num: n})
		}
		if !uses(api.Eq, api.Lt) {
			f = append(f, api.Node{Op: op, Coefs: []int{n}})
		}
	}
	if !uses(api.Eq, api.Lt) {
		f = append(f, api.Node{Op: op, Coefs: []int{0}}, api.Node{Op: op, Coefs: make([]int, 99)})
	}
	return f
}

func TestCheckNodes(t *testing.T) {
	for errno, bad := range badNodes() {
		for _, n := range bad {
			wantBad(t, of(n), 0, errno)
			wantCheck(t, of(n, eq(0), eq(0)), 0, errno)
			wantCheck(t, of(not(), n), 1, errno)
			wantCheck(t, of(or(), eq(0), n), 2, errno)
			wantCheck(t, of(or(), n, api.Node{}), 1, errno)
			wantCheck(t, of(or(), n), 1, errno)
			// What is wrong with the node by itself comes ahead of where it stands.
			wantCheck(t, of(eq(0), n), 1, errno)
			wantCheck(t, append(nots(38, eq(0)), n), 39, errno)
			wantCheck(t, of(eq(0), eq(0), n), 1, api.ErrShape)
		}
	}
}

func TestCheckParts(t *testing.T) {
	wantBad(t, of(eq(0), eq(0)), 1, api.ErrShape)
	wantBad(t, of(at(0, 0, 0), not(), eq(0)), 1, api.ErrShape)
	wantBad(t, of(not(), eq(0), eq(0)), 2, api.ErrShape)
	wantBad(t, of(and(), eq(0), eq(0), not()), 3, api.ErrShape)
	wantBad(t, of(not()), 1, api.ErrNone)
	wantBad(t, of(and()), 1, api.ErrNone)
	wantBad(t, of(and(), eq(0)), 2, api.ErrNone)
	wantBad(t, of(some(0)), 1, api.ErrNone)
	wantBad(t, of(or(), or(), eq(0), eq(0)), 4, api.ErrNone)
	wantBad(t, nots(39, and()), 40, api.ErrNone)
	eachTree(true, func(source *rand.Rand, x tree) {
		f := x.nodes()
		for long := range f {
			wantCheck(t, f[:long], long, api.ErrNone)
		}
		if len(f) < api.MaxNodes {
			wantCheck(t, append(slices.Clone(f), deal(source, ops[source.Intn(len(ops))])), len(f), api.ErrShape)
		}
	})
}

// TestCheckAnything: whatever stands in nodes, all calls end.
func TestCheckAnything(t *testing.T) {
	source := rand.New(rand.NewSource(1))
	some := func() int {
		if source.Intn(3) > 0 {
			return 0
		}
		return extreme[source.Intn(len(extreme))]
	}
	for range 20000 {
		f := make([]api.Node, 1+source.Intn(4))
		for i := range f {
			f[i] = api.Node{Op: source.Intn(11), Var: some(), Other: some(), Word: some(), Word2: some(), Num: some()}
			for range source.Intn(3) {
				f[i].Coefs = append(f[i].Coefs, some())
			}
		}
		place, err := formula.Check(f)
		if err != nil {
			wantBad(t, f, place, plain.Told(err))
		} else if got, err := formula.Free(f); err != nil {
			t.Errorf("Free(%v): got %v %v", f, got, err)
		}
	}
}

func TestFree(t *testing.T) {
	wantFree(t, of(eq(5)))
	wantFree(t, of(eq(0, 1, -2)), 0, 1)
	wantFree(t, of(lt(0, 0, 0, 1, 0, 1)), 2, 4)
	wantFree(t, of(at(0, 3, 0)), 3)
	wantFree(t, of(like(0, 4, 0, 1)), 1, 4)
	wantFree(t, of(like(0, 2, 1, 2)), 2)
	wantFree(t, of(not(), and(), eq(0), eq(0)))
	wantFree(t, of(and(), at(0, 4, 0), or(), at(0, 2, 0), at(0, 0, 0)), 0, 2, 4)
	wantFree(t, of(some(1), eq(0, 1, -2)), 0)
	wantFree(t, of(all(0), some(1), eq(0, 1, -2)))
	wantFree(t, of(some(3), eq(0, 1)), 0)
	wantFree(t, of(some(3), eq(0)))
	wantFree(t, of(all(0), like(0, 0, 0, 2)), 2)
	wantFree(t, of(all(2), like(0, 0, 0, 2)), 0)
	// What is bound in one part is free in another, and behind both.
	wantFree(t, of(and(), some(0), at(0, 0, 0), at(0, 0, 0)), 0)
	wantFree(t, of(and(), at(0, 0, 0), some(0), at(0, 0, 0)), 0)
	wantFree(t, of(and(), some(0), at(0, 0, 0), all(0), at(0, 0, 0)))
	wantFree(t, of(some(0), some(0), at(0, 0, 0)))
	wantFree(t, of(and(), some(0), some(0), at(0, 0, 0), at(0, 0, 0)), 0)
	wantFree(t, of(all(1), or(), some(0), eq(0, 1, 1), eq(0, 1, 1)), 0)
	eachTree(true, func(_ *rand.Rand, x tree) { wantFree(t, x.nodes(), x.free()...) })
}

func TestFreeIsFresh(t *testing.T) {
	f := of(eq(0, 1, 1, 1))
	first, err := formula.Free(f)
	if err != nil {
		t.Fatal(err)
	}
	first[0] = 9
	wantFree(t, f, 0, 1, 2)
}

func TestEvalSums(t *testing.T) {
	wantEval(t, of(eq(0)), nil, nil, true)
	wantEval(t, of(eq(1)), nil, nil, false)
	wantEval(t, of(lt(0)), nil, nil, false)
	wantEval(t, of(lt(-1)), nil, nil, true)
	wantEval(t, of(lt(1)), nil, nil, false)
	wantEval(t, of(eq(0, 1, -2)), nil, []int{8, 4}, true)
	wantEval(t, of(eq(0, 1, -2)), nil, []int{4, 8}, false)
	wantEval(t, of(eq(-3, 1)), nil, []int{3}, true)
	wantEval(t, of(lt(-3, 1)), nil, []int{3}, false)
	wantEval(t, of(lt(-3, 1)), nil, []int{2}, true)
	wantEval(t, of(lt(0, 1, -1)), nil, []int{0, 1}, true)
	wantEval(t, of(lt(0, 1, -1)), nil, []int{1, 1}, false)
	wantEval(t, of(eq(-60, 3, 0, -1, 2, 6)), nil, []int{10, 99, 0, 9, 2}, true)
}

// TestEvalNodes: each node by itself, and how they are joined.
func TestEvalNodes(t *testing.T) {
	words := named(t, "thue", "rudin", "fibo")
	// Thue says 0 1 1 0 1 0 0 1, rudin 0 0 0 1 0 0 1 0, fibo 0 1 0 0 1 0 1 0.
	wantEval(t, of(at(0, 0, 1)), words, []int{7}, true)
	wantEval(t, of(at(0, 0, 0)), words, []int{7}, false)
	wantEval(t, of(at(1, 2, 1)), words, []int{0, 0, 3}, true)
	wantEval(t, of(at(2, 1, 1)), words, []int{0, 4}, true)
	wantEval(t, of(at(2, 1, 9)), words, []int{0, 4}, false)
	wantEval(t, of(like(0, 0, 2, 1)), words, []int{7, 6}, true)
	wantEval(t, of(like(0, 0, 2, 1)), words, []int{6, 7}, true)
	wantEval(t, of(like(0, 1, 2, 0)), words, []int{6, 4}, true)
	wantEval(t, of(like(0, 1, 2, 0)), words, []int{7, 4}, false)
	wantEval(t, of(like(0, 0, 2, 1)), words, []int{1, 2}, false)
	wantEval(t, of(like(2, 0, 0, 1)), words, []int{1, 2}, true)
	wantEval(t, of(like(1, 0, 1, 0)), words, []int{5}, true)
	yes, no := eq(0), eq(1)
	wantEval(t, of(not(), yes), nil, nil, false)
	wantEval(t, of(not(), no), nil, nil, true)
	for i, pair := range [][2]api.Node{{no, no}, {no, yes}, {yes, no}, {yes, yes}} {
		wantEval(t, of(and(), pair[0], pair[1]), nil, nil, i == 3)
		wantEval(t, of(or(), pair[0], pair[1]), nil, nil, i > 0)
		// Whatever the first part is, the next one is the one behind all of it.
		wantEval(t, of(or(), and(), pair[0], pair[1], no), nil, nil, i == 3)
		wantEval(t, of(and(), or(), pair[0], pair[1], yes), nil, nil, i > 0)
		wantEval(t, of(and(), or(), pair[0], pair[1], no), nil, nil, false)
		wantEval(t, of(or(), not(), and(), pair[0], pair[1], no), nil, nil, i < 3)
		wantEval(t, of(and(), not(), or(), pair[0], pair[1], yes), nil, nil, i == 0)
	}
	wantEval(t, nots(39, yes), nil, nil, false)
	wantEval(t, nots(38, yes), nil, nil, true)
}

// so tells whether a tree is, where numbers below most are enough for Some and All.
func (x tree) so(t *testing.T, words []api.Out, nums [api.MaxVars]int, most int) bool {
	t.Helper()
	n := x.node
	said := func(w, v int) int {
		out, err := word.At(words[w], nums[v])
		if err != nil {
			t.Fatal(err)
		}
		return out
	}
	part := func(i int) bool { return x.kids[i].so(t, words, nums, most) }
	switch n.Op {
	case api.Eq, api.Lt:
		sum := n.Num
		for v, coef := range n.Coefs {
			sum += coef * nums[v]
		}
		return n.Op == api.Eq && sum == 0 || n.Op == api.Lt && sum < 0
	case api.At:
		return said(n.Word, n.Var) == n.Num
	case api.Like:
		return said(n.Word, n.Var) == said(n.Word2, n.Other)
	case api.Not:
		return !part(0)
	case api.And:
		return part(0) && part(1)
	case api.Or:
		return part(0) || part(1)
	}
	for k := range most {
		if nums[n.Var] = k; part(0) == (n.Op == api.Some) {
			return n.Op == api.Some
		}
	}
	return n.Op == api.All
}

// numbers: one for each variable, of any size.
func numbers(source *rand.Rand) [api.MaxVars]int {
	var nums [api.MaxVars]int
	for v := range nums {
		nums[v] = source.Intn(1 << source.Intn(41))
		if source.Intn(20) == 0 {
			nums[v] = api.MaxNum
		}
	}
	return nums
}

func TestEvalTrees(t *testing.T) {
	words := named(t, "thue", "fibo", "rudin")
	words[2] = api.Out{Base: 3, Next: [][]int{{0, 1, 2}, {0, 1, 2}, {0, 1, 2}}, Outs: []int{0, 1, 2}}
	count := [2]int{}
	eachTree(false, func(source *rand.Rand, x tree) {
		for range 5 {
			nums := numbers(source)
			want := x.so(t, words, nums, 0)
			wantEval(t, x.nodes(), words, nums[:], want)
			if free := x.free(); len(free) > 0 {
				enough := free[len(free)-1] + 1
				wantEval(t, x.nodes(), words, nums[:enough], want)
				wantNoEval(t, x.nodes(), words, nums[:enough-1], api.ErrShape)
			}
			if want {
				count[1]++
			} else {
				count[0]++
			}
		}
	})
	if min(count[0], count[1]) < 1000 {
		t.Errorf("too few are so, or too many: %v", count)
	}
}

func TestEvalNumbers(t *testing.T) {
	words := named(t, "thue")
	wantEval(t, of(eq(0, 1, -1)), nil, []int{api.MaxNum, api.MaxNum}, true)
	wantEval(t, of(lt(60, -12)), nil, []int{api.MaxNum}, true)
	wantEval(t, of(lt(-60, 12)), nil, []int{api.MaxNum}, false)
	wantEval(t, of(at(0, 0, 1)), words, []int{api.MaxNum}, true)
	// A variable that is counted no times needs no number; more numbers than variables do no harm.
	wantEval(t, of(eq(-1, 0, 1)), nil, []int{0, 1}, true)
	wantEval(t, of(eq(-1, 1)), nil, []int{1, 2, 3, 4, 5, 6, 7, 8}, true)
	wantEval(t, of(eq(0)), nil, []int{1, 2, 3, 4, 5, 6}, true)
	for _, n := range []int{-1, api.MaxNum + 1, math.MinInt, math.MaxInt} {
		wantNoEval(t, of(eq(0, 1)), nil, []int{n}, api.ErrRange)
		wantNoEval(t, of(at(0, 0, 1)), words, []int{n}, api.ErrRange)
		wantNoEval(t, of(like(0, 0, 0, 1)), words, []int{0, n}, api.ErrRange)
		// So it is with those that are not needed.
		wantNoEval(t, of(eq(0)), nil, []int{n}, api.ErrRange)
		wantNoEval(t, of(eq(0, 1)), nil, []int{0, 0, 0, 0, 0, 0, n}, api.ErrRange)
		wantNoEval(t, of(eq(0, 0, 1)), nil, []int{n, 1}, api.ErrRange)
		wantNoEval(t, of(eq(0, 0, 1)), nil, []int{n}, api.ErrShape)
	}
	wantNoEval(t, of(eq(0, 1)), nil, nil, api.ErrShape)
	wantNoEval(t, of(eq(0, 0, 0, 0, 0, 1)), nil, []int{1, 2, 3, 4}, api.ErrShape)
	wantNoEval(t, of(at(0, 1, 0)), words, []int{1}, api.ErrShape)
	wantNoEval(t, of(like(0, 0, 0, 1)), words, []int{1}, api.ErrShape)
	wantNoEval(t, of(or(), eq(0), eq(0, 1)), nil, nil, api.ErrShape)
}

func TestEvalBinds(t *testing.T) {
	words := named(t, "thue")
	for _, f := range [][]api.Node{
		of(some(1), eq(0, 1, -2)), of(all(0), eq(0)), of(not(), some(0), eq(0)), of(and(), eq(0), all(0), eq(0)),
	} {
		wantNoEval(t, f, words, []int{0, 0}, api.ErrShape)
		// It comes ahead of words and numbers.
		wantNoEval(t, f, []api.Out{{}}, nil, api.ErrShape)
		wantNoEval(t, f, make([]api.Out, api.MaxWords+1), []int{-1}, api.ErrShape)
	}
	wantNoEval(t, of(some(0), at(0, 0, 0)), nil, nil, api.ErrShape)
}

func TestEvalWords(t *testing.T) {
	words := named(t, "thue", "rudin", "fibo")
	bad := map[api.Errno]api.Out{
		api.ErrRange: {Base: 7},
		api.ErrNone:  {Base: 2},
		api.ErrShape: {Base: 2, Next: [][]int{{0, 0}}},
		api.ErrFull:  {Base: 2, Next: make([][]int, api.MaxOuts+1)},
	}
	for errno, o := range bad {
		// Words are looked at one by one, used or not, ahead of nodes and numbers.
		wantNoEval(t, of(eq(0)), []api.Out{o}, nil, errno)
		wantNoEval(t, of(eq(0)), []api.Out{words[0], words[1], o}, nil, errno)
		wantNoEval(t, of(at(2, 4, 0)), []api.Out{words[0], o}, []int{-1}, errno)
		for _, p := range bad {
			wantNoEval(t, of(eq(0)), []api.Out{o, p}, nil, errno)
			wantNoEval(t, of(eq(0)), []api.Out{o, o, p, p}, nil, api.ErrFull)
		}
	}
	wantNoEval(t, of(at(0, 0, 0)), append(words, words[0]), []int{0}, api.ErrFull)
	wantNoEval(t, of(at(0, 0, 0)), make([]api.Out, 99), []int{-1}, api.ErrFull)
	for many := range api.MaxWords {
		few := words[:many]
		for w := range api.MaxWords {
			if w < many {
				wantEval(t, of(at(w, 0, 0)), few, []int{0}, true)
				wantEval(t, of(like(w, 0, 0, 0)), few, []int{0}, true)
				continue
			}
			for _, nums := range [][]int{{0}, nil, {-1}} {
				wantNoEval(t, of(at(w, 0, 0)), few, nums, api.ErrNone)
				wantNoEval(t, of(like(w, 0, 0, 0)), few, nums, api.ErrNone)
				wantNoEval(t, of(like(0, 0, w, 0)), few, nums, api.ErrNone)
				wantNoEval(t, of(or(), eq(0, 1), at(w, 0, 0)), few, nums, api.ErrNone)
			}
		}
	}
	// The words of a formula need not have one base.
	wantEval(t, of(like(0, 0, 1, 0)), []api.Out{words[0], words[2]}, []int{1}, true)
}

func TestRename(t *testing.T) {
	wantRename(t, of(some(1), eq(0, 1, -2)), []int{2, 0, 1, 3, 4}, of(some(0), eq(0, -2, 0, 1)))
	wantRename(t, of(eq(5)), []int{4, 3, 2, 1, 0}, of(eq(5)))
	wantRename(t, of(lt(-5, 1, 2, 3, 4, -2)), []int{4, 3, 2, 1, 0}, of(lt(-5, -2, 4, 3, 2, 1)))
	wantRename(t, of(eq(0, 0, 0, 0, 0, 7)), []int{4, 3, 2, 1, 0}, of(eq(0, 7)))
	wantRename(t, of(eq(0, 7)), []int{4, 3, 2, 1, 0}, of(eq(0, 0, 0, 0, 0, 7)))
	wantRename(t, of(eq(0, 0, 1, 1)), []int{4, 0, 1, 2, 3}, of(eq(0, 1, 1)))
	wantRename(t, of(at(2, 0, 9)), []int{3, 1, 2, 0, 4}, of(at(2, 3, 9)))
	wantRename(t, of(like(1, 0, 2, 3)), []int{1, 2, 3, 4, 0}, of(like(1, 1, 2, 4)))
	wantRename(t, of(like(1, 4, 2, 4)), []int{1, 2, 3, 4, 0}, of(like(1, 0, 2, 0)))
	// Nodes without a variable get none.
	wantRename(t, of(not(), and(), all(0), or(), eq(0), eq(0), lt(1)), []int{1, 2, 3, 4, 0}, of(not(), and(), all(1), or(), eq(0), eq(0), lt(1)))
	wantRename(t, of(all(4), some(0), at(0, 0, 0)), []int{1, 2, 3, 4, 0}, of(all(0), some(1), at(0, 1, 0)))
}

func TestRenameErrors(t *testing.T) {
	f := of(some(1), eq(0, 1, -2))
	for _, to := range [][]int{nil, {}, {0}, {0, 1, 2, 3}, {0, 1, 2, 3, 4, 4}, {9, 9, 9, 9}, make([]int, 6)} {
		wantNoRename(t, f, to, api.ErrShape)
	}
	for _, n := range []int{math.MinInt, -1, 5, math.MaxInt} {
		for i := range api.MaxVars {
			to := []int{0, 1, 2, 3, 4}
			to[i] = n
			wantNoRename(t, f, to, api.ErrRange)
		}
	}
	for i := range api.MaxVars {
		for j := range api.MaxVars {
			to := []int{0, 1, 2, 3, 4}
			if to[i] = j; i != j {
				wantNoRename(t, f, to, api.ErrClash)
			}
		}
	}
	// Number by number: the first that is wrong is told.
	wantNoRename(t, f, []int{0, 0, 5, 1, 2}, api.ErrClash)
	wantNoRename(t, f, []int{0, 5, 0, 1, 2}, api.ErrRange)
	wantNoRename(t, f, []int{5, 5, 0, 1, 2}, api.ErrRange)
	wantNoRename(t, f, []int{0, 1, 2, 2, -1}, api.ErrClash)
}

func TestRenameTrees(t *testing.T) {
	words := named(t, "thue", "fibo", "rudin")
	eachTree(true, func(source *rand.Rand, x tree) {
		f, to := x.nodes(), source.Perm(api.MaxVars)
		got := rename(t, f, to)
		wantCheck(t, got, 0, api.OK)
		back := make([]int, api.MaxVars)
		for v, name := range to {
			back[name] = v
		}
		wantRename(t, got, back, f)
		wantRename(t, f, []int{0, 1, 2, 3, 4}, f)
		var free []int
		for _, v := range x.free() {
			free = append(free, to[v])
		}
		slices.Sort(free)
		wantFree(t, got, free...)
	})
	eachTree(false, func(source *rand.Rand, x tree) {
		to, nums := source.Perm(api.MaxVars), numbers(source)
		moved := make([]int, api.MaxVars)
		for v, name := range to {
			moved[name] = nums[v]
		}
		wantEval(t, rename(t, x.nodes(), to), words, moved, x.so(t, words, nums, 0))
	})
}

func TestBound(t *testing.T) {
	f := of(some(1), eq(0, 1, -2))
	wantBound(t, f, 0, 2, of(all(0), or(), not(), lt(0, 1, 0, -1), some(1), eq(0, 1, -2)))
	wantBound(t, f, 2, 0, of(all(2), or(), not(), lt(0, -1, 0, 1), some(1), eq(0, 1, -2)))
	wantBound(t, f, 0, 4, of(all(0), or(), not(), lt(0, 1, 0, 0, 0, -1), some(1), eq(0, 1, -2)))
	wantBound(t, f, 4, 3, of(all(4), or(), not(), lt(0, 0, 0, 0, -1, 1), some(1), eq(0, 1, -2)))
	wantBound(t, of(at(2, 4, 9)), 0, 1, of(all(0), or(), not(), lt(0, 1, -1), at(2, 4, 9)))
	wantBound(t, of(like(2, 4, 1, 3)), 1, 0, of(all(1), or(), not(), lt(0, -1, 1), like(2, 4, 1, 3)))
	for v := range api.MaxVars {
		for to := range api.MaxVars {
			if v == to {
				wantNoBound(t, f, v, to, api.ErrClash)
			} else {
				wantCheck(t, bound(t, f, v, to), 0, api.OK)
			}
		}
	}
	wantCheck(t, bound(t, nots(35, eq(0)), 0, 1), 0, api.OK)
}

func TestBoundErrors(t *testing.T) {
	f := of(eq(0))
	for _, n := range []int{math.MinInt, -1, 5, math.MaxInt} {
		for _, long := range []int{0, 36, 39} {
			wantNoBound(t, nots(long, eq(0)), n, 0, api.ErrRange)
			wantNoBound(t, nots(long, eq(0)), 4, n, api.ErrRange)
			wantNoBound(t, nots(long, eq(0)), n, n, api.ErrRange)
		}
	}
	wantNoBound(t, f, 3, 3, api.ErrClash)
	wantNoBound(t, nots(39, eq(0)), 3, 3, api.ErrClash)
	wantNoBound(t, nots(36, eq(0)), 0, 1, api.ErrFull)
	wantNoBound(t, nots(39, eq(0)), 0, 1, api.ErrFull)
}

// hang makes a tree of a formula's nodes.
func hang(f []api.Node) (tree, []api.Node) {
	x := tree{node: f[0]}
	f = f[1:]
	for range map[int]int{api.Not: 1, api.Some: 1, api.All: 1, api.And: 2, api.Or: 2}[x.node.Op] {
		var kid tree
		kid, f = hang(f)
		x.kids = append(x.kids, kid)
	}
	return x, f
}

// TestBoundTrees: it is so just if f is so of all numbers v below to.
func TestBoundTrees(t *testing.T) {
	words := named(t, "thue", "fibo", "rudin")
	eachTree(false, func(source *rand.Rand, x tree) {
		v, to := source.Intn(api.MaxVars), source.Intn(api.MaxVars)
		f := x.nodes()
		if v == to || len(f) > api.MaxNodes-4 {
			return
		}
		got := bound(t, f, v, to)
		wantCheck(t, got, 0, api.OK)
		free := x.free()
		free = slices.DeleteFunc(append(free, to), func(w int) bool { return w == v })
		slices.Sort(free)
		wantFree(t, got, slices.Compact(free)...)
		y, _ := hang(got)
		nums := numbers(source)
		for nums[to] = range 5 {
			want, at := true, nums
			for at[v] = range nums[to] {
				want = want && x.so(t, words, at, 0)
			}
			if y.so(t, words, nums, 8) != want {
				t.Errorf("Bound(%v, %d, %d): %v is not %v of %v", f, v, to, got, want, nums)
			}
		}
	})
}

// TestFresh: what comes out shares no memory with what went in, nor do its lists with each other.
func TestFresh(t *testing.T) {
	spare := []int{1, -2, 7, 7, 7, 7, 7, 7}
	f := of(and(), eq(0, spare[:2]...), and(), eq(0, spare[:2]...), api.Node{Op: api.Not, Coefs: spare[:0]}, api.Node{Op: api.Lt, Coefs: spare[:0]})
	was := cloneNodes(f)
	for name, call := range map[string]func() ([]api.Node, error){
		"Rename": func() ([]api.Node, error) { return formula.Rename(f, []int{0, 1, 2, 3, 4}) },
		"Bound":  func() ([]api.Node, error) { return formula.Bound(f, 0, 1) },
	} {
		got, err := call()
		if err != nil {
			t.Fatalf("%s: %v", name, err)
		}
		want := cloneNodes(got)
		for i := range got {
			got[i].Op = 99
			whole := got[i].Coefs[:cap(got[i].Coefs)]
			for k := range whole {
				whole[k] = 99
			}
			for k := i + 1; k < len(got); k++ {
				if !equalNode(got[k], want[k]) {
					t.Errorf("%s: nodes %d and %d share memory", name, i, k)
				}
			}
		}
		_ = append(got, not())
		if !equal(f, was) || !slices.Equal(spare, []int{1, -2, 7, 7, 7, 7, 7, 7}) {
			t.Errorf("%s: what comes out shares memory with what went in", name)
		}
		if again, err := call(); err != nil || !equal(again, want) {
			t.Errorf("%s: got %v %v, then %v", name, want, err, again)
		}
	}
}

// What is trimmed is as it was but for 0s at its end, and memory of its own.
func TestTrim(t *testing.T) {
	for _, c := range []struct{ coefs, want []int }{
		{nil, nil},
		{[]int{0}, nil},
		{[]int{0, 0, 0, 0, 0}, nil},
		{[]int{1}, []int{1}},
		{[]int{1, 0}, []int{1}},
		{[]int{0, -2, 0, 3, 0}, []int{0, -2, 0, 3}},
		{[]int{0, 0, 0, 0, -1}, []int{0, 0, 0, 0, -1}},
	} {
		was := slices.Clone(c.coefs)
		got := formula.Trim(c.coefs)
		if !slices.Equal(got, c.want) {
			t.Errorf("Trim(%v): got %v, want %v", c.coefs, got, c.want)
		}
		for i := range got {
			got[i] = 77
		}
		if !slices.Equal(c.coefs, was) {
			t.Errorf("%v was written into: %v", was, c.coefs)
		}
	}
}

// Needed are as many words as the last one that a node uses tells, not those of which a node says nothing.
func TestNeeds(t *testing.T) {
	for _, c := range []struct {
		f    []api.Node
		want int
	}{
		{of(eq(0)), 0},
		{of(not(), some(0), lt(0, 1)), 0},
		{of(at(0, 4, 9)), 1},
		{of(at(2, 0, 0)), 3},
		{of(like(0, 3, 1, 4)), 2},
		{of(like(2, 3, 0, 4)), 3},
		{of(and(), at(1, 0, 0), or(), eq(0), at(0, 0, 0)), 2},
		{of(all(1), or(), eq(0), like(0, 0, 2, 1)), 3},
	} {
		if got := formula.Needs(c.f); got != c.want {
			t.Errorf("Needs(%v): got %d, want %d", c.f, got, c.want)
		}
	}
}
