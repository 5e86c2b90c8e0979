package prove_test

import (
	"math"
	"math/rand"
	"slices"
	"testing"

	"filbert/api"
	"filbert/auto"
	"filbert/formula"
	"filbert/least"
	"filbert/letter"
	"filbert/plain"
	"filbert/prove"
	"filbert/right"
	"filbert/text"
	"filbert/track"
	"filbert/word"
)

var (
	bases   = []int{api.Fib, 2, 3, 4, 5, api.MaxBase}
	noBases = []int{math.MinInt, -1, 0, api.MaxBase + 1, math.MaxInt}
	ops     = []int{api.Eq, api.Lt, api.At, api.Like, api.Not, api.And, api.Or, api.Some, api.All}
	extreme = []int{math.MinInt, -61, -13, -1, 0, 1, 2, 3, 4, 5, 9, 10, 12, 13, 60, 61, math.MaxInt}
)

// mostTracks: how many tracks letters of a base may have.
func mostTracks(base int) int {
	most := 0
	for most < api.MaxTracks && power(base, most+1) <= api.MaxLetters {
		most++
	}
	return most
}

// read a text that is a claim.
func read(t *testing.T, s string) []api.Node {
	t.Helper()
	f, place, err := text.Parse(s)
	if err != nil {
		t.Fatalf("%q: %v at %d", s, err, place)
	}
	return f
}

func named(t *testing.T, names ...string) []api.Out {
	t.Helper()
	var words []api.Out
	for _, name := range names {
		o, err := word.Named(name)
		if err != nil {
			t.Fatal(err)
		}
		words = append(words, o)
	}
	return words
}

func cloneNodes(f []api.Node) []api.Node {
	var c []api.Node
	for _, n := range f {
		n.Coefs = slices.Clone(n.Coefs)
		c = append(c, n)
	}
	return c
}

func equalNodes(f, g []api.Node) bool {
	return slices.EqualFunc(f, g, func(a, b api.Node) bool {
		return a.Op == b.Op && a.Var == b.Var && a.Other == b.Other && a.Word == b.Word && a.Word2 == b.Word2 && a.Num == b.Num && slices.Equal(a.Coefs, b.Coefs)
	})
}

func cloneOuts(words []api.Out) []api.Out {
	var c []api.Out
	for _, o := range words {
		p := api.Out{Base: o.Base, Outs: slices.Clone(o.Outs)}
		for _, row := range o.Next {
			p.Next = append(p.Next, slices.Clone(row))
		}
		c = append(c, p)
	}
	return c
}

func equalOuts(a, b []api.Out) bool {
	return slices.EqualFunc(a, b, func(o, p api.Out) bool {
		return o.Base == p.Base && slices.Equal(o.Outs, p.Outs) && slices.EqualFunc(o.Next, p.Next, slices.Equal)
	})
}

func equal(a, b api.Auto) bool {
	return a.Base == b.Base && a.Tracks == b.Tracks && slices.Equal(a.Ends, b.Ends) && slices.EqualFunc(a.Next, b.Next, slices.Equal)
}

// empty: an automaton of which all is 0 or nil, as it comes with an error.
func empty(a api.Auto) bool {
	return a.Base == 0 && a.Tracks == 0 && a.Next == nil && a.Ends == nil
}

// tell Of what it is to tell, and look that nothing is written into, and that nothing comes with an error.
func tell(t *testing.T, base int, f []api.Node, words []api.Out) (api.Auto, []int, error) {
	t.Helper()
	wasF, wasWords := cloneNodes(f), cloneOuts(words)
	a, vars, err := prove.Of(base, f, words)
	if !equalNodes(f, wasF) || !equalOuts(words, wasWords) {
		t.Fatalf("%v or %v was written into: %v, %v", wasF, wasWords, f, words)
	}
	if err != nil && (!empty(a) || vars != nil) {
		t.Fatalf("Of(%d, %v, %v): got %v %v beside %v", base, f, words, a, vars, err)
	}
	return a, vars, err
}

func of(t *testing.T, base int, f []api.Node, words []api.Out) (api.Auto, []int) {
	t.Helper()
	a, vars, err := tell(t, base, f, words)
	if err != nil {
		t.Fatalf("Of(%d, %v, %v): %v", base, f, words, err)
	}
	return a, vars
}

func wantOf(t *testing.T, base int, s string, words []api.Out, want api.Auto, vars ...int) {
	t.Helper()
	if got, gotVars := of(t, base, read(t, s), words); !equal(got, want) || !slices.Equal(gotVars, vars) {
		t.Errorf("base %d, %s: got %v %v, want %v %v", base, s, got, gotVars, want, vars)
	}
}

func wantNoOf(t *testing.T, base int, f []api.Node, words []api.Out, errno api.Errno) {
	t.Helper()
	if a, vars, err := tell(t, base, f, words); plain.Told(err) != errno {
		t.Errorf("Of(%d, %v, %v): got %v %v %v, want %v", base, f, words, a, vars, err, errno)
	}
}

func wantHolds(t *testing.T, base int, s string, words []api.Out, want bool) {
	t.Helper()
	if got, err := prove.Holds(base, read(t, s), words); got != want || err != nil {
		t.Errorf("base %d, %s: got %v %v, want %v", base, s, got, err, want)
	}
}

func wantNoHolds(t *testing.T, base int, f []api.Node, words []api.Out, errno api.Errno) {
	t.Helper()
	if got, err := prove.Holds(base, f, words); got || plain.Told(err) != errno {
		t.Errorf("Holds(%d, %v, %v): got %v %v, want %v", base, f, words, got, err, errno)
	}
}

// wantNeither: both calls tell this error. What there would be too much of is no matter of whether all variables are bound.
func wantNeither(t *testing.T, base int, f []api.Node, words []api.Out, errno api.Errno) {
	t.Helper()
	wantNoOf(t, base, f, words, errno)
	wantNoHolds(t, base, f, words, errno)
}

// every word is taken, or none is.
func every(base, tracks int, ends bool) api.Auto {
	return api.Auto{Base: base, Tracks: tracks, Next: [][]int{make([]int, power(base, tracks))}, Ends: []bool{ends}}
}

func all(t *testing.T, base, tracks int) api.Auto {
	t.Helper()
	a, err := right.All(base, tracks)
	if err != nil {
		t.Fatal(err)
	}
	return a
}

// tree is a formula whose parts hang below it.
type tree struct {
	node api.Node
	kids []tree
}

// many: how many parts a node has.
func many(op int) int {
	switch op {
	case api.Not, api.Some, api.All:
		return 1
	case api.And, api.Or:
		return 2
	}
	return 0
}

// hang the nodes of a formula; what is left behind it comes, too.
func hang(f []api.Node) (tree, []api.Node) {
	x := tree{node: f[0]}
	f = f[1:]
	for range many(x.node.Op) {
		var kid tree
		kid, f = hang(f)
		x.kids = append(x.kids, kid)
	}
	return x, f
}

func (x tree) nodes() []api.Node {
	f := []api.Node{x.node}
	for _, kid := range x.kids {
		f = append(f, kid.nodes()...)
	}
	return cloneNodes(f)
}

// says tells whether a tree has this variable outside what is below a Some or All of it.
func (x tree) says(v int) bool {
	switch n := x.node; n.Op {
	case api.Eq, api.Lt:
		return v < len(n.Coefs) && n.Coefs[v] != 0
	case api.At:
		return n.Var == v
	case api.Like:
		return n.Var == v || n.Other == v
	case api.Some, api.All:
		return n.Var != v && x.kids[0].says(v)
	}
	return slices.ContainsFunc(x.kids, func(kid tree) bool { return kid.says(v) })
}

func (x tree) free() []int {
	var free []int
	for v := range api.MaxVars {
		if x.says(v) {
			free = append(free, v)
		}
	}
	return free
}

// grow makes a tree up to so deep, of so many variables.
func grow(source *rand.Rand, deep, vars int, binds bool) tree {
	kinds := 9
	if !binds {
		kinds = 7
	}
	if deep == 0 {
		kinds = 4
	}
	x := tree{node: deal(source, ops[source.Intn(kinds)], vars)}
	for range many(x.node.Op) {
		x.kids = append(x.kids, grow(source, deep-1, vars, binds))
	}
	return x
}

// deal makes a node of an Op, with whatever it uses.
func deal(source *rand.Rand, op, vars int) api.Node {
	n := api.Node{Op: op}
	switch op {
	case api.Eq, api.Lt:
		n.Num = source.Intn(9) - 4
		for range source.Intn(vars + 1) {
			n.Coefs = append(n.Coefs, source.Intn(5)-2)
		}
		n.Coefs = formula.Trim(n.Coefs)
	case api.At:
		n.Word, n.Var, n.Num = source.Intn(api.MaxWords), source.Intn(vars), source.Intn(3)
	case api.Like:
		n.Word, n.Var = source.Intn(api.MaxWords), source.Intn(vars)
		n.Word2, n.Other = source.Intn(api.MaxWords), source.Intn(vars)
	case api.Some, api.All:
		n.Var = source.Intn(vars)
	}
	return n
}

// wild: an Out of so many states that lead anywhere. Its first digit 0 may lead away from where it begins.
func wild(source *rand.Rand, base, states, most int) api.Out {
	o := api.Out{Base: base}
	for range states {
		var nexts []int
		for range kinds(base) {
			nexts = append(nexts, source.Intn(states))
		}
		o.Next = append(o.Next, nexts)
		o.Outs = append(o.Outs, source.Intn(most+1))
	}
	return o
}

// wilds: as many as may be.
func wilds(source *rand.Rand, base, states, most int) []api.Out {
	var words []api.Out
	for range api.MaxWords {
		words = append(words, wild(source, base, 1+source.Intn(states), most))
	}
	return words
}

// eachTree calls f with trees that are formulas, of each base, with words.
func eachTree(seed int64, rounds int, binds bool, f func(source *rand.Rand, base int, x tree, words []api.Out)) {
	source := rand.New(rand.NewSource(seed))
	for range rounds {
		for _, base := range bases {
			vars := min(mostTracks(base)+source.Intn(2), api.MaxVars)
			x := grow(source, source.Intn(6), 1+source.Intn(vars), binds)
			if len(x.nodes()) <= api.MaxNodes {
				f(source, base, x, wilds(source, base, 7, 4))
			}
		}
	}
}

func TestP1Examples(t *testing.T) {
	thue := named(t, "thue")
	less := api.Auto{Base: 2, Tracks: 2, Next: [][]int{{0, 1, 2, 0}, {1, 1, 1, 1}, {2, 2, 2, 2}}, Ends: []bool{false, true, false}}
	more := api.Auto{Base: 2, Tracks: 2, Next: less.Next, Ends: []bool{false, false, true}}
	odd := api.Auto{Base: 2, Tracks: 1, Next: [][]int{{0, 1}, {1, 0}}, Ends: []bool{false, true}}
	even := api.Auto{Base: 2, Tracks: 1, Next: odd.Next, Ends: []bool{true, false}}
	alike := api.Auto{Base: 2, Tracks: 2, Next: [][]int{{0, 1, 1, 0}, {1, 0, 0, 1}}, Ends: []bool{true, false}}
	wantOf(t, 2, "Eb:a=2b", nil, api.Auto{Base: 2, Tracks: 1, Next: [][]int{{0, 1}, {0, 1}}, Ends: []bool{true, false}}, 0)
	wantOf(t, 2, "a<b", nil, less, 0, 1)
	wantOf(t, 2, "b<a", nil, more, 0, 1)
	wantOf(t, 2, "b<e", nil, less, 1, 4)
	wantOf(t, 2, "~(e<b|b=e)", nil, less, 1, 4)
	wantOf(t, 2, "@0[c]=1", thue, odd, 2)
	wantOf(t, 2, "~@0[e]=1", thue, even, 4)
	wantOf(t, 2, "@0[c]=7", thue, every(2, 1, false), 2)
	wantOf(t, 2, "@0[a]=@0[b]", thue, alike, 0, 1)
	wantOf(t, 2, "@0[d]=@0[b]", thue, alike, 1, 3)
	wantOf(t, 2, "@0[d]=@0[d]", thue, every(2, 1, true), 3)
	wantOf(t, 2, "((@0[a]=0&@0[b]=0)|(@0[a]=1&@0[b]=1))", thue, alike, 0, 1)
	wantOf(t, 2, "Eb:(@0[a]=@0[b]&@0[b]=1)", thue, odd, 0)
	wantOf(t, 2, "Ab:(@0[a]=@0[b]|@0[b]=1)", thue, even, 0)
	// Of variables of both parts and of one alone.
	wantOf(t, 3, "(a=0|b=0)", nil, api.Auto{Base: 3, Tracks: 2, Next: [][]int{
		{0, 1, 1, 2, 3, 3, 2, 3, 3},
		{1, 1, 1, 3, 3, 3, 3, 3, 3},
		{2, 3, 3, 2, 3, 3, 2, 3, 3},
		{3, 3, 3, 3, 3, 3, 3, 3, 3},
	}, Ends: []bool{true, true, true, false}}, 0, 1)
	// Of Fib no word is taken that is not right, on whichever track.
	wantOf(t, api.Fib, "a=0", nil, api.Auto{Base: api.Fib, Tracks: 1, Next: [][]int{{0, 1}, {1, 1}}, Ends: []bool{true, false}}, 0)
	wantOf(t, api.Fib, "~a<0", nil, all(t, api.Fib, 1), 0)
	wantOf(t, api.Fib, "(~a<0&~b<0)", nil, all(t, api.Fib, 2), 0, 1)
	wantOf(t, api.Fib, "(~a<0|~b<0)", nil, all(t, api.Fib, 2), 0, 1)
	wantOf(t, api.Fib, "(~a<0|(b<0&d<0))", nil, all(t, api.Fib, 3), 0, 1, 3)
	wantOf(t, api.Fib, "Eb:~a=b", nil, all(t, api.Fib, 1), 0)
}

// TestP1NoVariable: without Free variables there is no track, and all words are taken, or none is.
func TestP1NoVariable(t *testing.T) {
	for _, base := range bases {
		wantOf(t, base, "0=0", nil, every(base, 0, true))
		wantOf(t, base, "0<0", nil, every(base, 0, false))
		wantOf(t, base, "~0=0", nil, every(base, 0, false))
		wantOf(t, base, "(0<1&~1=0)", nil, every(base, 0, true))
		wantOf(t, base, "(1<0|~0=0)", nil, every(base, 0, false))
		wantOf(t, base, "Aa:Eb:a<b", nil, every(base, 0, true))
		wantOf(t, base, "(0=0&a=0)", nil, func() api.Auto { a, _ := of(t, base, read(t, "a=0"), nil); return a }(), 0)
		wantOf(t, base, "(0=0|a=0)", nil, all(t, base, 1), 0)
		wantOf(t, base, "(0<0&a=0)", nil, every(base, 1, false), 0)
	}
}

// TestP1NotFree: of a Some or All whose variable is not Free in its part it is that of the part, whatever comes twice.
func TestP1NotFree(t *testing.T) {
	for _, base := range bases {
		for _, s := range []string{"a<b", "~a=0", "Eb:a=2b", "0=0", "0<0", "2c=d+3"} {
			f := read(t, s)
			want, vars := of(t, base, f, nil)
			for v := range api.MaxVars {
				if slices.Contains(vars, v) {
					continue
				}
				for _, op := range []int{api.Some, api.All} {
					n := api.Node{Op: op, Var: v}
					for ahead := 1; ahead <= 3; ahead++ {
						got, gotVars := of(t, base, append(slices.Repeat([]api.Node{n}, ahead), f...), nil)
						if !equal(got, want) || !slices.Equal(gotVars, vars) {
							t.Errorf("base %d, %d of %v ahead of %s: got %v %v, want %v %v", base, ahead, n, s, got, gotVars, want, vars)
						}
					}
				}
			}
		}
		// The inner one of two with the same variable binds it.
		wantHolds(t, base, "Aa:Ea:a=3", nil, true)
		wantHolds(t, base, "Ea:Aa:a<3", nil, false)
		wantHolds(t, base, "Ea:(a=3&Ea:a=4)", nil, true)
		wantOf(t, base, "(a=0&Aa:~a<0)", nil, func() api.Auto { a, _ := of(t, base, read(t, "a=0"), nil); return a }(), 0)
	}
}

// TestHoldsEachBase: numbers do not mind their base.
func TestHoldsEachBase(t *testing.T) {
	claims := map[string]bool{
		"Aa:Eb:(a=2b|a=2b+1)":               true,
		"Aa:Eb:(a=3b|a=3b+1)":               false,
		"Aa:Eb:((a=3b|a=3b+1)|a=3b+2)":      true,
		"Ea:Ab:a<b+1":                       true,
		"Ea:Ab:b<a+1":                       false,
		"Aa:Eb:a<b":                         true,
		"Eb:Aa:a<b":                         false,
		"Aa:Eb:b<a":                         false,
		"Aa:(a=0|Eb:b<a)":                   true,
		"Aa:Ab:(~a<b|~b<a)":                 true,
		"Aa:Ab:((a<b|b<a)|a=b)":             true,
		"Aa:Ab:(a<b|b<a)":                   false,
		"Ea:2a=3":                           false,
		"Ea:2a=4":                           true,
		"Ea:a+1=0":                          false,
		"Ea:(1<a&a<3)":                      true,
		"Ea:(1<a&a<2)":                      false,
		"Ea:Eb:3a=4b+1":                     true,
		"Ea:Eb:6a=4b+1":                     false,
		"Ab:Ea:(2a=b|2a=b+1)":               true,
		"Ea:(59<a&Ab:(~3b=a|b=20))":         true,
		"Aa:Ab:(~2a=2b|a=b)":                true,
		"Aa:Ab:(~2a=3b|Ea:b=2a)":            true,
		"Aa:0=0":                            true,
		"Ea:0<0":                            false,
		"Aa:Ab:Ac:Ad:Ae:0=0":                true,
		"(Aa:Eb:a<b&(Ac:Ed:c<d&~Ee:e+1=0))": true,
		"(Aa:Eb:b<a|(Ac:Ed:d<c|Ee:e+1=0))":  false,
		"(Ea:a=3&Aa:a<1)":                   false,
		"(Ea:a=3|Aa:a<1)":                   true,
		"Ee:Ed:((e<d&d<e+2)&d=e+1)":         true,
		"~Ea:Eb:(a<b&~Aa:(a<b|~a<b))":       true,
		"Ea:(~Eb:a=2b&~Eb:(a=2b+1|a=2b+3))": false,
		"Aa:(~Eb:a=4b|Eb:a=2b)":             true,
		"Aa:(~Eb:a=2b|Eb:a=4b)":             false,
		"Aa:Ab:((~a=b+60|60<a+1)&~b=a+60)":  false,
	}
	for s, want := range claims {
		for _, base := range bases {
			wantHolds(t, base, s, nil, want)
		}
	}
	for s, want := range map[string]bool{
		"Aa:Ab:Ec:(a=b+c|b=a+c)":             true,
		"Aa:Ab:Ac:((~a<b|~b<c)|a+1<c)":       true,
		"Aa:Ab:Ac:((~a<b|~b<c)|a+2<c)":       false,
		"Aa:Ab:Ec:((a<c&b<c)&Aa:(a<c|~a<c))": true,
	} {
		for _, base := range []int{api.Fib, 2, 3} {
			wantHolds(t, base, s, nil, want)
		}
		// Three tracks are too many for the others.
		wantNeither(t, 4, read(t, s), nil, api.ErrFull)
		wantNeither(t, api.MaxBase, read(t, s), nil, api.ErrFull)
	}
	for _, base := range []int{2, 3} {
		wantHolds(t, base, "Aa:(a<8|Eb:Ec:a=3b+5c)", nil, true)
		wantHolds(t, base, "Aa:(a<7|Eb:Ec:a=3b+5c)", nil, false)
	}
}

// TestHoldsWords: what is known of the words that have names.
func TestHoldsWords(t *testing.T) {
	words := named(t, "thue", "rudin")
	for s, want := range map[string]bool{
		"Aa:Eb:(a<b&@0[a]=@0[b])":     true,
		"Aa:Eb:(b=2a&@0[a]=@0[b])":    true,
		"Aa:Eb:(b=2a+1&@0[a]=@0[b])":  false,
		"Ea:Eb:(b=2a+1&@0[a]=@0[b])":  false,
		"Ea:@0[a]=2":                  false,
		"Aa:(@1[a]=0|@1[a]=1)":        true,
		"Aa:Eb:(a<b&@0[b]=@1[b])":     true,
		"Aa:@0[a]=@1[a]":              false,
		"Aa:Ab:(@0[a]=@1[b]|Ec:~c<0)": true,
		// No three in a row are the same; two may be.
		"Ea:Eb:Ec:((b=a+1&c=b+1)&(@0[a]=@0[b]&@0[b]=@0[c]))": false,
		"Ea:Eb:(b=a+1&@0[a]=@0[b])":                          true,
		// There are squares of twice 3, but none of twice 5, and none of twice 3 goes on.
		"Ea:Ab:(2<b|Ec:Ed:((c=a+b&d=c+3)&@0[c]=@0[d]))":   true,
		"Ea:Ab:(3<b|Ec:Ed:((c=a+b&d=c+3)&@0[c]=@0[d]))":   false,
		"Ea:Ab:(4<b|Ec:Ed:((c=a+b&d=c+5)&@0[c]=@0[d]))":   false,
		"Ea:Ab:(b=0|Ac:(~c=a+b|@0[c]=@0[b]))":             true,
		"Ae:Ea:(e<a&Ab:(e<b|Ac:(~c=a+b|@0[c]=@0[b])))":    true,
		"Ea:(0<a&Ab:Ac:(~c=a+b|@0[c]=@0[b]))":             false,
		"Ea:(0<a&Ab:(b<a|Ec:(c=a+b&@0[c]=@0[b])))":        false,
		"Aa:Eb:(@0[b]=1&Ec:(c=a+b&(@0[c]=0|@1[c]=1)))":    true,
		"Ea:(3<a&(a<9&(@0[a]=1&(@1[a]=0&Eb:a=2b))))":      true,
		"Ea:(3<a&(a<5&(@0[a]=1&(@1[a]=0&Eb:a=2b+1))))":    false,
		"Ea:(5<a&(a<7&(@0[a]=0&(@1[a]=1&~Eb:a=2b+1))))":   true,
		"Aa:(@0[a]=0|(@0[a]=1&Ab:(@0[b]=0|@0[a]=@0[b])))": true,
	} {
		wantHolds(t, 2, s, words, want)
	}
	for s, want := range map[string]bool{
		"Aa:(@0[a]=0|Eb:(b=a+1&@0[b]=0))":              true,
		"Ea:Eb:((b=a+1&@0[a]=0)&@0[b]=0)":              true,
		"Ea:Eb:((b=a+1&@0[a]=1)&@0[b]=1)":              false,
		"Aa:Eb:((a<b&b<a+4)&@0[b]=1)":                  true,
		"Aa:Eb:((a<b&b<a+3)&@0[b]=1)":                  false,
		"Ea:(0<a&Ab:Ac:(~c=a+b|@0[c]=@0[b]))":          false,
		"Ae:Ea:(e<a&Ab:(e<b|Ac:(~c=a+b|@0[c]=@0[b])))": true,
	} {
		wantHolds(t, api.Fib, s, named(t, "fibo"), want)
	}
}

// eachNums calls f with all tuples of so many numbers below most.
func eachNums(many, most int, f func(nums []int)) {
	var from func(nums []int)
	from = func(nums []int) {
		if len(nums) == many {
			f(nums)
			return
		}
		for n := range most {
			from(append(slices.Clone(nums), n))
		}
	}
	from(nil)
}

// wantTakes: a word is taken just if it is right and it is so of its numbers; also with 0s ahead.
func wantTakes(t *testing.T, a api.Auto, w []int, want bool) {
	t.Helper()
	for ahead := range 4 {
		got, err := auto.Takes(a, append(make([]int, ahead), w...))
		if err != nil {
			t.Fatal(err)
		}
		if got != want {
			t.Fatalf("%v: %v behind %d letters 0: got %v, want %v", a, w, ahead, got, want)
		}
	}
}

// TestP1Eval: without Some and All it is so as chapter 12 tells, of small numbers and of great ones.
func TestP1Eval(t *testing.T) {
	most := []int{1, 200, 18, 7, 5, 4}
	tried := 0
	eachTree(1, 150, false, func(source *rand.Rand, base int, x tree, words []api.Out) {
		f := x.nodes()
		a, vars, err := tell(t, base, f, words)
		if err != nil {
			return
		}
		tried++
		try := func(own []int) {
			nums := make([]int, api.MaxVars)
			for i, v := range vars {
				nums[v] = own[i]
			}
			so, err := formula.Eval(f, words, nums)
			if err != nil {
				t.Fatal(err)
			}
			w, err := letter.Word(base, own)
			if err != nil {
				t.Fatal(err)
			}
			wantTakes(t, a, w, so)
		}
		eachNums(len(vars), most[len(vars)], try)
		for range 10 {
			own := make([]int, len(vars))
			for i := range own {
				own[i] = source.Intn(api.MaxNum + 1)
			}
			try(own)
		}
	})
	if tried < 500 {
		t.Errorf("only %d formulas were tried", tried)
	}
}

// TestP1Right: only right words are taken.
func TestP1Right(t *testing.T) {
	eachTree(2, 200, true, func(source *rand.Rand, base int, x tree, words []api.Out) {
		a, _, err := tell(t, base, x.nodes(), words)
		if err != nil {
			return
		}
		few, err := right.Only(a)
		if err != nil || !equal(a, few) {
			t.Errorf("base %d, %v %v: got %v, of whose words only these are right: %v %v", base, x.nodes(), words, a, few, err)
		}
	})
}

// wantModel: what prove tells of a tree is what the slow way tells; why there is too much, if so, comes back.
func wantModel(t *testing.T, base int, x tree, words []api.Out) string {
	t.Helper()
	f := x.nodes()
	a, vars, err := tell(t, base, f, words)
	p := prover{base: base, words: words}
	want := p.of(x)
	if p.full != "" {
		if plain.Told(err) != api.ErrFull {
			t.Fatalf("base %d, %v %v: got %v %v, want ErrFull: %s", base, f, words, a, err, p.full)
		}
		return p.full
	}
	if err != nil || !equal(a, want.auto()) || !slices.Equal(vars, x.free()) {
		t.Fatalf("base %d, %v %v: got %v %v %v, want %v", base, f, words, a, vars, err, want)
	}
	return ""
}

// TestP1EachTree: all formulas, with what there would be too much of.
func TestP1EachTree(t *testing.T) {
	count := map[string]int{}
	eachTree(3, 300, true, func(source *rand.Rand, base int, x tree, words []api.Out) {
		why := wantModel(t, base, x, words)
		count[why]++
		if len(x.free()) > 0 {
			wantNoHolds(t, base, x.nodes(), words, api.ErrShape)
			return
		}
		got, err := prove.Holds(base, x.nodes(), words)
		a, _, _ := tell(t, base, x.nodes(), words)
		if why != "" && plain.Told(err) != api.ErrFull || why == "" && (err != nil || got != a.Ends[0]) {
			t.Errorf("Holds(%d, %v, %v): got %v %v beside %v %s", base, x.nodes(), words, got, err, a, why)
		}
	})
	if count[""] < 1000 || count[letters] == 0 || count[leaf] == 0 || count[joined] == 0 {
		t.Errorf("too few of one kind: %v", count)
	}
}

// TestP1Full: whatever there may be too much of, that is told, also far below; and without it there is an automaton.
func TestP1Full(t *testing.T) {
	// outs makes words of what states lead to, and what they say.
	outs := func(base int, next [][]int, said ...int) api.Out { return api.Out{Base: base, Next: next, Outs: said} }
	first := outs(api.Fib, [][]int{{2, 0}, {1, 2}, {0, 1}}, 1, 0, 0)
	second := outs(api.Fib, [][]int{{0, 0}, {0, 2}, {0, 0}}, 1, 0, 0)
	third := outs(api.Fib, [][]int{{1, 0}, {4, 2}, {4, 2}, {2, 1}, {0, 3}}, 1, 0, 1, 1, 1)
	fourth := outs(api.Fib, [][]int{{3, 0}, {1, 2}, {2, 1}, {2, 1}, {0, 2}}, 1, 1, 1, 1, 1)
	fifth := outs(3, [][]int{{3, 1, 0}, {1, 2, 3}, {0, 2, 2}, {2, 0, 3}}, 0, 0, 0, 1)
	sixth := outs(3, [][]int{{1, 2, 3}, {2, 0, 1}, {0, 0, 2}, {3, 3, 3}}, 0, 0, 1, 0)
	seventh := outs(2, [][]int{{2, 2}, {1, 0}, {6, 7}, {1, 8}, {8, 0}, {5, 7}, {4, 2}, {3, 6}, {5, 6}}, 1, 1, 0, 1, 1, 1, 0, 0, 0)
	for _, c := range []struct {
		base  int
		s     string
		words []api.Out
		why   string
	}{
		{3, "a+b=c", nil, ""},
		{3, "a+b=c+d", nil, letters},
		{3, "Ed:a+b=c+d", nil, letters},
		{3, "(a=b&c=d)", nil, letters},
		{3, "(a=b|c=d)", nil, letters},
		{3, "(Ea:a=b&Ac:c=d)", nil, ""},
		{6, "(a=b|a=0)", nil, ""},
		{6, "(a=b|c=0)", nil, letters},
		{6, "Ea:Eb:Ec:a+b=c", nil, letters},
		{2, "(a=b&(c=d&e=0))", nil, ""},
		{api.Fib, "2a+2b<c", nil, ""},
		{api.Fib, "d<2a+2b", nil, leaf},
		{2, "7a+60=5b", nil, ""},
		{2, "@0[a]=@0[b]", []api.Out{seventh}, leaf},
		{2, "@0[a]=@0[a]", []api.Out{seventh}, ""},
		{api.Fib, "2a=b+2c", nil, ""},
		{api.Fib, "~2a=b+2c", nil, flipped},
		{api.Fib, "~~2a=b+2c", nil, flipped},
		{api.Fib, "Ee:2a=b+2c", nil, ""},
		{api.Fib, "Ae:2a=b+2c", nil, ""},
		{api.Fib, "2b+c<a+4", nil, ""},
		{api.Fib, "Ec:2b+c<a+4", nil, ""},
		{api.Fib, "Ac:2b+c<a+4", nil, turned},
		{2, "(2b+3<a&@0[a]=1)", []api.Out{seventh}, ""},
		{2, "(5b+27=3a&@0[a]=1)", []api.Out{seventh}, ""},
		{2, "(7a+60=5b&@0[a]=1)", []api.Out{seventh}, joined},
		{2, "(5b+27=3a|@0[a]=1)", []api.Out{seventh}, joined},
		{3, "Ec:(a=b+c&(@0[b]=1&@1[c]=1))", []api.Out{fifth, sixth}, ""},
		{3, "Eb:Ec:(a=b+c&(@0[b]=1&@1[c]=1))", []api.Out{fifth, sixth}, sets},
		{api.Fib, "(a=b+c&(@0[b]=1&@1[c]=1))", []api.Out{first, second}, ""},
		{api.Fib, "Eb:(a=b+c&(@0[b]=1&@1[c]=1))", []api.Out{first, second}, found},
		{2, "((a<c|c<b)|@0[c]=1)", []api.Out{seventh}, ""},
		{2, "Ac:((a<c|c<b)|@0[c]=1)", []api.Out{seventh}, setsOf},
		{2, "Ec:~((a<c|c<b)|@0[c]=1)", []api.Out{seventh}, sets},
		{api.Fib, "(~a=b+c|(@0[b]=0|@1[c]=0))", []api.Out{first, second}, ""},
		{api.Fib, "Ab:(~a=b+c|(@0[b]=0|@1[c]=0))", []api.Out{first, second}, foundOf},
		{api.Fib, "Eb:~(~a=b+c|(@0[b]=0|@1[c]=0))", []api.Out{third, fourth}, ""},
		{api.Fib, "Ab:(~a=b+c|(@0[b]=0|@1[c]=0))", []api.Out{third, fourth}, turnedBy},
		{api.Fib, "~Eb:~(~a=b+c|(@0[b]=0|@1[c]=0))", []api.Out{third, fourth}, flipped},
	} {
		x, _ := hang(read(t, c.s))
		if why := wantModel(t, c.base, x, c.words); why != c.why {
			t.Errorf("base %d, %s: there is too much of %q, not %q", c.base, c.s, why, c.why)
		}
		if c.why == "" {
			continue
		}
		// What tells all does not hide what there is too much of, wherever that stands.
		for _, s := range []string{"~" + c.s, "(0<0&" + c.s + ")", "(" + c.s + "&0<0)", "(0=0|" + c.s + ")", "(" + c.s + "|0=0)"} {
			wantNoOf(t, c.base, read(t, s), c.words, api.ErrFull)
			for _, bind := range []string{"E", "A"} {
				closed := bind + "a:" + bind + "b:" + bind + "c:" + bind + "d:" + bind + "e:" + s
				wantNeither(t, c.base, read(t, closed), c.words, api.ErrFull)
			}
		}
	}
}

// TestP1Least: it is the least automaton, its states numbered as they are met.
func TestP1Least(t *testing.T) {
	eachTree(4, 100, true, func(source *rand.Rand, base int, x tree, words []api.Out) {
		a, vars, err := tell(t, base, x.nodes(), words)
		if err != nil {
			return
		}
		few, err := least.Least(a)
		if err != nil || !equal(a, few) || a.Base != base || a.Tracks != len(vars) {
			t.Errorf("base %d, %v %v: got %v %v, which is not the least: %v %v", base, x.nodes(), words, a, vars, few, err)
		}
	})
}

// wantAlike: if there is an automaton of both, it is the same.
func wantAlike(t *testing.T, base int, f, g []api.Node, words []api.Out) {
	t.Helper()
	if len(f) > api.MaxNodes || len(g) > api.MaxNodes {
		return
	}
	a, vars, err := tell(t, base, f, words)
	b, others, err2 := tell(t, base, g, words)
	if err != nil || err2 != nil {
		return
	}
	if !equal(a, b) || !slices.Equal(vars, others) {
		t.Errorf("base %d, %v: %v tells %v %v, %v tells %v %v", base, words, f, a, vars, g, b, others)
	}
}

// join nodes and formulas.
func join(op int, v int, parts ...[]api.Node) []api.Node {
	return slices.Concat([]api.Node{{Op: op, Var: v}}, slices.Concat(parts...))
}

func not(f []api.Node) []api.Node { return join(api.Not, 0, f) }

// TestP2Alike: of formulas that are so for the same numbers it is the same.
func TestP2Alike(t *testing.T) {
	eachTree(5, 60, true, func(source *rand.Rand, base int, x tree, words []api.Out) {
		vars := mostTracks(base)
		f, g := x.nodes(), grow(source, 2, vars, true).nodes()
		v, other := source.Intn(vars), source.Intn(vars)
		wantAlike(t, base, f, not(not(f)), words)
		wantAlike(t, base, f, join(api.And, 0, f, f), words)
		wantAlike(t, base, f, join(api.Or, 0, f, f), words)
		wantAlike(t, base, join(api.And, 0, f, g), join(api.And, 0, g, f), words)
		wantAlike(t, base, join(api.Or, 0, f, g), join(api.Or, 0, g, f), words)
		wantAlike(t, base, not(join(api.Or, 0, f, g)), join(api.And, 0, not(f), not(g)), words)
		wantAlike(t, base, not(join(api.And, 0, f, g)), join(api.Or, 0, not(f), not(g)), words)
		wantAlike(t, base, join(api.All, v, f), not(join(api.Some, v, not(f))), words)
		wantAlike(t, base, join(api.Some, v, f), not(join(api.All, v, not(f))), words)
		wantAlike(t, base, join(api.Some, v, join(api.Some, other, f)), join(api.Some, other, join(api.Some, v, f)), words)
		wantAlike(t, base, join(api.All, v, join(api.All, other, f)), join(api.All, other, join(api.All, v, f)), words)
		wantAlike(t, base, join(api.All, v, join(api.And, 0, f, g)), join(api.And, 0, join(api.All, v, f), join(api.All, v, g)), words)
		wantAlike(t, base, join(api.Some, v, join(api.Or, 0, f, g)), join(api.Or, 0, join(api.Some, v, f), join(api.Some, v, g)), words)
	})
	for _, base := range bases {
		for _, s := range [][2]string{
			{"a<b", "(~a=b&~b<a)"},
			{"a<b", "(~(a=b|b<a)&a<b)"},
			{"a=2b", "2a=4b"},
			{"a=b+1", "(b<a&a<b+2)"},
			{"Eb:a=2b", "~Eb:a=2b+1"},
			{"Eb:(a=2b&Ea:b=3a)", "Eb:a=6b"},
			{"a<3", "(a=0|(a=1|a=2))"},
			{"(a=b&0=0)", "~(a<b|b<a)"},
			{"Ab:(b<a|a<b+1)", "~a<0"},
		} {
			wantAlike(t, base, read(t, s[0]), read(t, s[1]), nil)
		}
	}
}

// TestP2Apart: of formulas that are not so for the same numbers it is another one.
func TestP2Apart(t *testing.T) {
	for _, base := range bases {
		var autos []api.Auto
		for _, s := range []string{"a<0", "~a<0", "a=0", "0<a", "a=59", "a=60", "a<60", "Eb:a=2b", "Eb:a=2b+1", "Eb:a=3b", "Eb:a=2b+2"} {
			a, vars := of(t, base, read(t, s), nil)
			if !slices.Equal(vars, []int{0}) {
				t.Errorf("%s: %v", s, vars)
			}
			for _, other := range autos {
				if equal(a, other) {
					t.Errorf("base %d: %s is as another one: %v", base, s, a)
				}
			}
			autos = append(autos, a)
		}
	}
}

// TestP2Rename: with other variables it is the same, its tracks in their order.
func TestP2Rename(t *testing.T) {
	tried := 0
	eachTree(6, 60, true, func(source *rand.Rand, base int, x tree, words []api.Out) {
		f := x.nodes()
		a, vars, err := tell(t, base, f, words)
		to := source.Perm(api.MaxVars)
		g, err2 := formula.Rename(f, to)
		if err != nil || err2 != nil {
			return
		}
		b, got, err := tell(t, base, g, words)
		var want, at []int
		for _, v := range vars {
			want = append(want, to[v])
		}
		slices.Sort(want)
		for _, v := range vars {
			at = append(at, slices.Index(want, to[v]))
		}
		moved, err2 := track.Spread(a, len(vars), at)
		if err != nil || err2 != nil {
			t.Errorf("base %d, %v %v: %v %v", base, f, to, err, err2)
			return
		}
		tried++
		if !equal(b, moved) || !slices.Equal(got, want) {
			t.Errorf("base %d, %v %v: got %v %v, want %v %v", base, f, to, b, got, moved, want)
		}
	})
	if tried < 100 {
		t.Errorf("only %d formulas were tried", tried)
	}
}

// TestBound: below a bound it is as numbers one by one tell.
func TestBound(t *testing.T) {
	words := named(t, "thue")
	f, err := formula.Bound(read(t, "@0[a]=0"), 0, 1)
	if err != nil {
		t.Fatal(err)
	}
	want, _ := of(t, 2, read(t, "b<2"), nil)
	if got, vars := of(t, 2, f, words); !equal(got, want) || !slices.Equal(vars, []int{1}) {
		t.Errorf("got %v %v, want %v", got, vars, want)
	}
}

// TestWrongOrder: the base comes ahead of the formula, that ahead of the words, these ahead of what a node lacks and of what there would be too much of.
func TestWrongOrder(t *testing.T) {
	thue, fibo := named(t, "thue")[0], named(t, "fibo")[0]
	ends := api.Out{Base: 2, Next: [][]int{{0, 0}}}
	far := api.Out{Base: 2, Next: [][]int{{0, 1}}, Outs: []int{0}}
	full := wild(rand.New(rand.NewSource(7)), 2, api.MaxOuts+1, 1)
	said := api.Out{Base: 2, Next: [][]int{{0, 0}}, Outs: []int{api.MaxOut + 1}}
	so, wide := read(t, "0=0"), read(t, "Ea:Eb:Ec:Ed:((a=b&c=d)&@2[a]=1)")
	for _, base := range noBases {
		for _, f := range [][]api.Node{so, nil, {{}}, wide} {
			for _, words := range [][]api.Out{nil, {{}}, {thue, thue, thue, thue}} {
				wantNeither(t, base, f, words, api.ErrRange)
			}
		}
	}
	for _, words := range [][]api.Out{nil, {thue}, {fibo}, {{}}, {ends}, {thue, thue, thue, thue}} {
		for _, base := range bases {
			wantNeither(t, base, nil, words, api.ErrNone)
			wantNeither(t, base, make([]api.Node, api.MaxNodes+1), words, api.ErrFull)
			wantNeither(t, base, []api.Node{{}}, words, api.ErrRange)
			wantNeither(t, base, []api.Node{{Op: api.Eq, Coefs: []int{1, 0}}}, words, api.ErrShape)
			wantNeither(t, base, []api.Node{{Op: api.At, Word: api.MaxWords}}, words, api.ErrRange)
			wantNeither(t, base, []api.Node{{Op: api.Some}, {Op: api.And}, so[0]}, words, api.ErrNone)
			wantNeither(t, base, []api.Node{so[0], so[0]}, words, api.ErrShape)
			wantNeither(t, base, []api.Node{{Op: api.Eq, Coefs: []int{1}}, so[0]}, words, api.ErrShape)
		}
	}
	for _, f := range [][]api.Node{so, wide} {
		wantNeither(t, 2, f, []api.Out{thue, thue, thue, thue}, api.ErrFull)
		wantNeither(t, 2, f, []api.Out{{}, {}, {}, {}}, api.ErrFull)
		wantNeither(t, 3, f, []api.Out{thue}, api.ErrShape)
		wantNeither(t, 2, f, []api.Out{fibo}, api.ErrShape)
		wantNeither(t, api.Fib, f, []api.Out{fibo, fibo, thue}, api.ErrShape)
		for errno, bad := range map[api.Errno][]api.Out{
			api.ErrRange: {{}, far, said},
			api.ErrNone:  {{Base: 2}},
			api.ErrFull:  {full},
			api.ErrShape: {ends},
		} {
			for _, w := range bad {
				wantNeither(t, 2, f, []api.Out{w}, errno)
				wantNeither(t, 2, f, []api.Out{thue, thue, w}, errno)
				// Word by word: all of one comes ahead of all of the next.
				wantNeither(t, 2, f, []api.Out{w, fibo}, errno)
				wantNeither(t, 2, f, []api.Out{fibo, w}, api.ErrShape)
				wantNeither(t, 2, f, []api.Out{w, thue, {}}, errno)
				if w.Base == 2 {
					wantNeither(t, 5, f, []api.Out{w, w}, errno)
				}
			}
		}
	}
	for _, words := range [][]api.Out{nil, {thue}, {thue, thue}} {
		wantNeither(t, 2, wide, words, api.ErrNone)
	}
	wantNeither(t, 3, wide, nil, api.ErrNone)
	wantNeither(t, 3, read(t, "Ea:(a<0&Eb:Ec:Ed:((a=b&c=d)&a+b=c+d))"), nil, api.ErrFull)
}

// TestLacking: a word that a node uses is lacking, be it a Like's first or second one.
func TestLacking(t *testing.T) {
	words := named(t, "thue", "rudin", "thue")
	for s, need := range map[string]int{
		"0=0": 0, "Ea:@0[a]=1": 1, "Ea:@1[a]=1": 2, "Ea:(a=0|@2[a]=1)": 3,
		"Ea:@0[a]=@0[a]": 1, "Ea:@0[a]=@2[a]": 3, "Ea:@2[a]=@0[a]": 3, "Ea:Eb:@1[a]=@0[b]": 2, "(0=0|Ea:@1[a]=9)": 2,
	} {
		for many := range len(words) + 1 {
			f := read(t, s)
			if many < need {
				wantNeither(t, 2, f, words[:many], api.ErrNone)
				continue
			}
			wantHolds(t, 2, s, words[:many], true)
		}
	}
}

// TestHoldsFree: of a formula with Free variables it is not told whether it holds, ahead of what is wrong with words.
func TestHoldsFree(t *testing.T) {
	words := named(t, "thue")
	for _, s := range []string{"a=0", "~a=0", "Ea:a=b", "(0=0|e<0)", "(Ea:a=0&a=0)", "Aa:Ab:Ac:Ad:~e=a+b+c+d", "a+b+c+d=e", "@0[a]=1", "@2[a]=@1[b]", "Ea:@0[b]=@0[a]"} {
		f := read(t, s)
		for _, base := range bases {
			for _, w := range [][]api.Out{nil, words, {{}}, {{Base: 2}}, slices.Repeat(words, 4)} {
				wantNoHolds(t, base, f, w, api.ErrShape)
			}
		}
		for _, base := range noBases {
			wantNoHolds(t, base, f, nil, api.ErrRange)
		}
	}
	// A variable that is counted no times is not Free: its Coefs are empty.
	wantHolds(t, 2, "a=a", nil, true)
}

// TestMostNodes: as many nodes as may be.
func TestMostNodes(t *testing.T) {
	so := api.Node{Op: api.Eq}
	for _, base := range bases {
		for _, op := range []int{api.Not, api.Some, api.All} {
			f := append(slices.Repeat([]api.Node{{Op: op}}, api.MaxNodes-1), so)
			if got, err := prove.Holds(base, f, nil); got != (op != api.Not) || err != nil {
				t.Errorf("base %d, %d many times: %v %v", base, op, got, err)
			}
			wantNeither(t, base, append(f[:1:1], f...), nil, api.ErrFull)
		}
		for _, op := range []int{api.And, api.Or} {
			f := append(slices.Repeat([]api.Node{{Op: op}}, 19), slices.Repeat([]api.Node{so}, 20)...)
			if got, err := prove.Holds(base, append([]api.Node{{Op: api.Not}}, f...), nil); got || err != nil {
				t.Errorf("base %d, %d many times: %v %v", base, op, got, err)
			}
		}
	}
}

// TestAnything: whatever comes, no call panics, and the error that comes is one of those that may.
func TestAnything(t *testing.T) {
	source := rand.New(rand.NewSource(8))
	pick := func() int { return extreme[source.Intn(len(extreme))] }
	for range 40000 {
		var f []api.Node
		for range source.Intn(7) {
			n := deal(source, ops[source.Intn(9)], api.MaxVars)
			switch source.Intn(12) {
			case 0:
				n.Op, n.Var, n.Other = pick(), pick(), pick()
			case 1:
				n.Word, n.Word2, n.Num = pick(), pick(), pick()
			case 2:
				n.Coefs = append(n.Coefs, pick(), pick())
			}
			f = append(f, n)
		}
		base := 1 + source.Intn(api.MaxBase)
		var words []api.Out
		for range source.Intn(api.MaxWords + 1) {
			words = append(words, wild(source, base, 1+source.Intn(9), 9))
		}
		switch source.Intn(9) {
		case 0:
			base = pick()
		case 1:
			words = append(words, api.Out{Base: pick(), Next: [][]int{{pick(), pick()}}, Outs: []int{pick()}})
		}
		a, vars, err := tell(t, base, f, words)
		so, err2 := prove.Holds(base, f, words)
		if err != nil && plain.Told(err) < api.ErrRange || err2 != nil && plain.Told(err2) < api.ErrRange {
			t.Fatalf("base %d, %v %v: %v %v", base, f, words, err, err2)
		}
		if err == nil && (auto.Check(a) != nil || a.Tracks != len(vars)) {
			t.Fatalf("base %d, %v %v: got %v %v", base, f, words, a, vars)
		}
		if free, _ := formula.Free(f); len(free) == 0 && plain.Told(err) != plain.Told(err2) || err2 != nil && so || err2 == nil && so != a.Ends[0] {
			t.Fatalf("base %d, %v %v: got %v %v, but %v %v", base, f, words, a, err, so, err2)
		}
	}
}

// TestBehindTheLength: what lies behind a list's length is neither read nor written.
func TestBehindTheLength(t *testing.T) {
	f := read(t, "(a=2b&@0[a]=@0[b])")
	words := named(t, "thue")
	want, _ := of(t, 2, f, words)
	long := append(cloneNodes(f), api.Node{Op: api.Eq, Num: 7}, api.Node{Op: -1})
	long[1].Coefs = append(long[1].Coefs, 99)[:len(long[1].Coefs)]
	more := append(cloneOuts(words), api.Out{})
	more[0].Outs = append(more[0].Outs, 77)[:2]
	more[0].Next = append(more[0].Next, []int{9, 9})[:2]
	if got, _ := of(t, 2, long[:len(f)], more[:1]); !equal(got, want) {
		t.Errorf("got %v, want %v", got, want)
	}
	if long[len(f)].Num != 7 || long[len(f)+1].Op != -1 || long[1].Coefs[:3][2] != 99 || more[0].Outs[:3][2] != 77 || more[0].Next[:3][2][0] != 9 || more[1].Base != 0 {
		t.Errorf("written into: %v %v", long, more)
	}
}

// TestFresh: what comes out is the caller's, and shares nothing: neither with what was handed in nor with what comes next.
func TestFresh(t *testing.T) {
	words := named(t, "thue")
	for _, s := range []string{"a<b", "@0[a]=1", "@0[a]=@0[b]", "~a<b", "(a<b|a=c)", "(a<b&@0[b]=0)", "Eb:a=2b", "Ab:a<b+1", "Ec:a<b", "Ac:@0[a]=1", "0=0"} {
		f := read(t, s)
		want, vars := of(t, 2, f, words)
		got, gotVars := of(t, 2, f, words)
		for state, nexts := range got.Next {
			for i := range nexts[:cap(nexts)] {
				nexts[:cap(nexts)][i] = 77
			}
			for behind := state + 1; behind < len(got.Next); behind++ {
				if !slices.Equal(got.Next[behind], want.Next[behind]) {
					t.Fatalf("%s: states %d and %d share memory", s, state, behind)
				}
			}
			got.Ends[state] = !got.Ends[state]
		}
		if !slices.Equal(gotVars, vars) {
			t.Errorf("%s: the variables share memory with the automaton", s)
		}
		for i := range gotVars[:cap(gotVars)] {
			gotVars[:cap(gotVars)][i] = 77
		}
		wantOf(t, 2, s, words, want, vars...)
		if !equalNodes(f, read(t, s)) || !equalOuts(words, named(t, "thue")) {
			t.Errorf("%s: %v or %v shares memory with what is answered", s, f, words)
		}
	}
}
