package word_test

import (
	"math"
	"math/bits"
	"math/rand"
	"slices"
	"testing"

	"filbert/api"
	"filbert/auto"
	"filbert/digit"
	"filbert/least"
	"filbert/letter"
	"filbert/pair"
	"filbert/plain"
	"filbert/right"
	"filbert/some"
	"filbert/track"
	"filbert/word"
)

var bases = []int{api.Fib, 2, 3, 4, 5, api.MaxBase}

// kinds: how many digits a base has.
func kinds(base int) int {
	if base == api.Fib {
		return 2
	}
	return base
}

func cloneRows(rows [][]int) [][]int {
	var c [][]int
	for _, row := range rows {
		c = append(c, slices.Clone(row))
	}
	return c
}

func cloneOut(o api.Out) api.Out {
	return api.Out{Base: o.Base, Next: cloneRows(o.Next), Outs: slices.Clone(o.Outs)}
}

func equalOut(a, b api.Out) bool {
	return a.Base == b.Base && slices.Equal(a.Outs, b.Outs) && slices.EqualFunc(a.Next, b.Next, slices.Equal)
}

func equal(a, b api.Auto) bool {
	return a.Base == b.Base && a.Tracks == b.Tracks && slices.Equal(a.Ends, b.Ends) && slices.EqualFunc(a.Next, b.Next, slices.Equal)
}

// empty: an automaton of which all is 0 or nil, as it comes with an error.
func empty(a api.Auto) bool {
	return a.Base == 0 && a.Tracks == 0 && a.Next == nil && a.Ends == nil
}

func emptyOut(o api.Out) bool {
	return o.Base == 0 && o.Next == nil && o.Outs == nil
}

// must have come without an error.
func must(t *testing.T) func(a api.Auto, err error) api.Auto {
	return func(a api.Auto, err error) api.Auto {
		t.Helper()
		if err != nil {
			t.Fatal(err)
		}
		return a
	}
}

func named(t *testing.T, name string) api.Out {
	t.Helper()
	o, err := word.Named(name)
	if err != nil {
		t.Fatalf("Named(%q): %v", name, err)
	}
	return o
}

func is(t *testing.T, o api.Out, v int) api.Auto {
	t.Helper()
	was := cloneOut(o)
	got, err := word.Is(o, v)
	if err != nil {
		t.Fatalf("Is(%v, %d): %v", o, v, err)
	}
	if !equalOut(o, was) {
		t.Fatalf("%v was written into: %v", was, o)
	}
	return got
}

func like(t *testing.T, o, p api.Out) api.Auto {
	t.Helper()
	wasO, wasP := cloneOut(o), cloneOut(p)
	got, err := word.Like(o, p)
	if err != nil {
		t.Fatalf("Like(%v, %v): %v", o, p, err)
	}
	if !equalOut(o, wasO) || !equalOut(p, wasP) {
		t.Fatalf("%v or %v was written into: %v, %v", wasO, wasP, o, p)
	}
	return got
}

func wantAt(t *testing.T, o api.Out, n, want int) {
	t.Helper()
	if got, err := word.At(o, n); got != want || err != nil {
		t.Errorf("At(%v, %d): got %d %v, want %d", o, n, got, err, want)
	}
}

func wantHead(t *testing.T, o api.Out, n int, want []int) {
	t.Helper()
	if got, err := word.Head(o, n); !slices.Equal(got, want) || err != nil {
		t.Errorf("Head(%v, %d): got %v %v, want %v", o, n, got, err, want)
	}
}

func wantIs(t *testing.T, o api.Out, v int, want api.Auto) {
	t.Helper()
	if got := is(t, o, v); !equal(got, want) {
		t.Errorf("Is(%v, %d): got %v, want %v", o, v, got, want)
	}
}

// wantLike: the least automaton, or ErrFull, if that has too many states; tells how many it is to have.
func wantLike(t *testing.T, o, p api.Out) int {
	t.Helper()
	want := fewest(wide([]api.Out{o, p}, func(said []int) bool { return said[0] == said[1] }))
	if len(want.Next) <= api.MaxStates {
		if got := like(t, o, p); !equal(got, want) {
			t.Errorf("Like(%v, %v): got %v, want %v", o, p, got, want)
		}
	} else if got, err := word.Like(o, p); !empty(got) || plain.Told(err) != api.ErrFull {
		t.Errorf("Like(%v, %v): got %v %v, want ErrFull", o, p, got, err)
	}
	return len(want.Next)
}

func wantMorph(t *testing.T, rules [][]int, code []int, want api.Out) {
	t.Helper()
	wasRules, wasCode := cloneRows(rules), slices.Clone(code)
	if got, err := word.Morph(rules, code); !equalOut(got, want) || err != nil {
		t.Errorf("Morph(%v, %v): got %v %v, want %v", rules, code, got, err, want)
	}
	if !slices.EqualFunc(rules, wasRules, slices.Equal) || !slices.Equal(code, wasCode) {
		t.Errorf("%v or %v was written into: %v, %v", wasRules, wasCode, rules, code)
	}
}

func wantNoMorph(t *testing.T, rules [][]int, code []int, errno api.Errno) {
	t.Helper()
	if got, err := word.Morph(rules, code); !emptyOut(got) || plain.Told(err) != errno {
		t.Errorf("Morph(%v, %v): got %v %v, want %v", rules, code, got, err, errno)
	}
}

// wantBad: each call that is given an Out says first what is wrong with it, whatever else is.
func wantBad(t *testing.T, o api.Out, errno api.Errno) {
	t.Helper()
	if err := word.Check(o); plain.Told(err) != errno {
		t.Errorf("Check(%v): got %v, want %v", o, err, errno)
	}
	thue := api.Out{Base: 2, Next: [][]int{{0, 1}, {1, 0}}, Outs: []int{0, 1}}
	for _, n := range []int{math.MinInt, -1, 0, 1, math.MaxInt} {
		if got, err := word.At(o, n); got != 0 || plain.Told(err) != errno {
			t.Errorf("At(%v, %d): got %v %v, want %v", o, n, got, err, errno)
		}
		if got, err := word.Head(o, n); got != nil || plain.Told(err) != errno {
			t.Errorf("Head(%v, %d): got %v %v, want %v", o, n, got, err, errno)
		}
		if got, err := word.Is(o, n); !empty(got) || plain.Told(err) != errno {
			t.Errorf("Is(%v, %d): got %v %v, want %v", o, n, got, err, errno)
		}
	}
	for _, p := range [][2]api.Out{{o, thue}, {thue, o}, {o, {}}, {o, o}} {
		if got, err := word.Like(p[0], p[1]); !empty(got) || plain.Told(err) != errno {
			t.Errorf("Like(%v, %v): got %v %v, want %v", p[0], p[1], got, err, errno)
		}
	}
}

func takes(t *testing.T, a api.Auto, w []int) bool {
	t.Helper()
	ok, err := auto.Takes(a, w)
	if err != nil {
		t.Fatalf("Takes(%v, %v): %v", a, w, err)
	}
	return ok
}

// wild: an Out with so many states, whose outputs are up to most. Its first digit 0 may lead away from where it begins.
func wild(source *rand.Rand, base, states, most int) api.Out {
	o := api.Out{Base: base}
	for range states {
		row := make([]int, kinds(base))
		for x := range row {
			row[x] = source.Intn(states)
		}
		o.Next = append(o.Next, row)
		o.Outs = append(o.Outs, source.Intn(most+1))
	}
	return o
}

// sums: an Out that says of the digits' sum, parted by so many, what code tells.
func sums(base int, code ...int) api.Out {
	o := api.Out{Base: base, Outs: code}
	for state := range code {
		var row []int
		for x := range kinds(base) {
			row = append(row, (state+x)%len(code))
		}
		o.Next = append(o.Next, row)
	}
	return o
}

// said tells the output at digits of any length, 0s ahead or not.
func said(o api.Out, digits []int) int {
	for len(digits) > 0 && digits[0] == 0 {
		digits = digits[1:]
	}
	state := 0
	for _, x := range digits {
		state = o.Next[state][x]
	}
	return o.Outs[state]
}

// isRight: of Fib no two 1s are side by side.
func isRight(base int, digits []int) bool {
	for i := 1; i < len(digits); i++ {
		if base == api.Fib && digits[i-1] == 1 && digits[i] == 1 {
			return false
		}
	}
	return true
}

// eachWord calls f with all words of so many kinds of letters, up to so long.
func eachWord(many, long int, f func(w []int)) {
	var from func(w []int)
	from = func(w []int) {
		f(w)
		if len(w) < long {
			for x := range many {
				from(append(slices.Clone(w), x))
			}
		}
	}
	from(nil)
}

// longest: so long words are not too many, of so many kinds of letters.
func longest(many int) int {
	switch {
	case many <= 2:
		return 10
	case many <= 4:
		return 6
	case many <= 9:
		return 4
	}
	return 2
}

// tracksOf: the digits of each of two tracks.
func tracksOf(base int, w []int) (x, y []int) {
	for _, l := range w {
		x = append(x, l/kinds(base))
		y = append(y, l%kinds(base))
	}
	return x, y
}

// stand is where Outs stand side by side, with more told of it than is needed.
type stand struct {
	state, last [2]int
	begun       [2]bool
	wrong       bool
}

// walk goes on by a letter.
func walk(outs []api.Out, at stand, x int) stand {
	for track := len(outs) - 1; track >= 0; track-- {
		o := outs[track]
		d := x % kinds(o.Base)
		x /= kinds(o.Base)
		at.wrong = at.wrong || o.Base == api.Fib && d == 1 && at.last[track] == 1
		at.last[track] = d
		if d > 0 || at.begun[track] {
			at.begun[track] = true
			at.state[track] = o.Next[at.state[track]][d]
		}
	}
	return at
}

// wide makes an automaton, with a track for each of one or two Outs, of all stands; what is said there tells what is taken.
func wide(outs []api.Out, taken func(said []int) bool) api.Auto {
	many := 1
	for _, o := range outs {
		many *= kinds(o.Base)
	}
	a := api.Auto{Base: outs[0].Base, Tracks: len(outs)}
	numbers := map[stand]int{{}: 0}
	for stands := []stand{{}}; len(stands) > 0; stands = stands[1:] {
		row := make([]int, many)
		for x := range row {
			to := walk(outs, stands[0], x)
			if _, met := numbers[to]; !met {
				numbers[to] = len(numbers)
				stands = append(stands, to)
			}
			row[x] = numbers[to]
		}
		var outputs []int
		for track, o := range outs {
			outputs = append(outputs, o.Outs[stands[0].state[track]])
		}
		a.Next = append(a.Next, row)
		a.Ends = append(a.Ends, !stands[0].wrong && taken(outputs))
	}
	return a
}

// fewest makes one state of those from which the same words are taken, however many are left; of an automaton whose states stand in the order in which they are met.
func fewest(a api.Auto) api.Auto {
	class := make([]int, len(a.Next))
	for state, ends := range a.Ends {
		if ends {
			class[state] = 1
		}
	}
	var first []int
	for before := -1; before != len(first); {
		before, first = len(first), nil
		numbers := map[[api.MaxLetters + 1]int]int{}
		finer := make([]int, len(class))
		for state, row := range a.Next {
			mark := [api.MaxLetters + 1]int{api.MaxLetters: class[state]}
			for x, next := range row {
				mark[x] = class[next]
			}
			if _, met := numbers[mark]; !met {
				numbers[mark] = len(first)
				first = append(first, state)
			}
			finer[state] = numbers[mark]
		}
		class = finer
	}
	few := api.Auto{Base: a.Base, Tracks: a.Tracks}
	for _, state := range first {
		row := make([]int, len(a.Next[state]))
		for x, next := range a.Next[state] {
			row[x] = class[next]
		}
		few.Next = append(few.Next, row)
		few.Ends = append(few.Ends, a.Ends[state])
	}
	return few
}

func TestO1Examples(t *testing.T) {
	thue, rudin, fibo := named(t, "thue"), named(t, "rudin"), named(t, "fibo")
	wantHead(t, thue, 8, []int{0, 1, 1, 0, 1, 0, 0, 1})
	wantHead(t, fibo, 8, []int{0, 1, 0, 0, 1, 0, 1, 0})
	wantHead(t, rudin, 16, []int{0, 0, 0, 1, 0, 0, 1, 0, 0, 0, 0, 1, 1, 1, 0, 1})
	wantAt(t, thue, 7, 1)
	wantAt(t, thue, 0, 0)
	wantHead(t, thue, 0, nil)
	wantHead(t, thue, 1, []int{0})
}

// TestO1Known: what is known of the words that have names, by other ways, up to the greatest number.
func TestO1Known(t *testing.T) {
	thue, rudin, fibo := named(t, "thue"), named(t, "rudin"), named(t, "fibo")
	source := rand.New(rand.NewSource(1))
	nums := []int{api.MaxNum, api.MaxNum - 1}
	for n := range 500 {
		nums = append(nums, n, source.Intn(api.MaxNum+1))
	}
	for _, n := range nums {
		wantAt(t, thue, n, bits.OnesCount(uint(n))%2)
		wantAt(t, rudin, n, bits.OnesCount(uint(n&(n>>1)))%2)
		d, err := digit.Of(api.Fib, n)
		if err != nil {
			t.Fatal(err)
		}
		wantAt(t, fibo, n, append([]int{0}, d...)[len(d)])
	}
	// The word of fibo is one and the same, if each 0 of it becomes 0 1 and each 1 becomes 0.
	head, err := word.Head(fibo, api.MaxList)
	if err != nil {
		t.Fatal(err)
	}
	var grown []int
	for _, x := range head {
		grown = append(grown, [][]int{{0, 1}, {0}}[x]...)
	}
	if !slices.Equal(head, grown[:len(head)]) {
		t.Errorf("fibo: %v becomes %v", head, grown)
	}
}

// TestO1Check: Outs of each base, with as few and as many states as may be.
func TestO1Check(t *testing.T) {
	source := rand.New(rand.NewSource(2))
	for _, base := range bases {
		for _, states := range []int{1, 2, 3, api.MaxOuts - 1, api.MaxOuts} {
			o := wild(source, base, states, api.MaxOut)
			if err := word.Check(o); err != nil {
				t.Errorf("Check(%v): %v", o, err)
			}
			var head []int
			for n := range api.MaxList {
				d, err := digit.Of(base, n)
				if err != nil {
					t.Fatal(err)
				}
				head = append(head, said(o, d))
				wantAt(t, o, n, head[n])
			}
			for _, n := range []int{0, 1, 7, api.MaxList - 1, api.MaxList} {
				wantHead(t, o, n, head[:n])
			}
			d, err := digit.Of(base, api.MaxNum)
			if err != nil {
				t.Fatal(err)
			}
			wantAt(t, o, api.MaxNum, said(o, d))
		}
	}
}

// TestO1Wrong: what is wrong with an Out, in its order.
func TestO1Wrong(t *testing.T) {
	twenty := slices.Repeat([][]int{{0, 0}}, api.MaxOuts)
	more := slices.Repeat([][]int{{0, 0}}, api.MaxOuts+1)
	for _, base := range []int{math.MinInt, -1, 0, 7, math.MaxInt} {
		wantBad(t, api.Out{Base: base}, api.ErrRange)
		wantBad(t, api.Out{Base: base, Next: [][]int{{0, 0}}, Outs: []int{0}}, api.ErrRange)
		wantBad(t, api.Out{Base: base, Next: more}, api.ErrRange)
	}
	for _, base := range bases {
		wantBad(t, api.Out{Base: base}, api.ErrNone)
		wantBad(t, api.Out{Base: base, Next: [][]int{}, Outs: []int{0}}, api.ErrNone)
		wantBad(t, api.Out{Base: base, Next: more}, api.ErrFull)
		wantBad(t, api.Out{Base: base, Next: more, Outs: make([]int, api.MaxOuts+1)}, api.ErrFull)
		wantBad(t, api.Out{Base: base, Next: make([][]int, 1000), Outs: []int{99}}, api.ErrFull)
		wantBad(t, api.Out{Base: base, Next: twenty, Outs: make([]int, api.MaxOuts+1)}, api.ErrShape)
		wantBad(t, api.Out{Base: base, Next: twenty, Outs: make([]int, api.MaxOuts-1)}, api.ErrShape)
		wantBad(t, api.Out{Base: base, Next: [][]int{{99}}}, api.ErrShape)
		k := kinds(base)
		for _, n := range []int{0, 1, k - 1, k + 1, 36} {
			if n != k {
				wantBad(t, api.Out{Base: base, Next: [][]int{make([]int, n)}, Outs: []int{0}}, api.ErrShape)
				wantBad(t, api.Out{Base: base, Next: [][]int{make([]int, k), make([]int, n)}, Outs: []int{0, 0}}, api.ErrShape)
				// What a state has too many, or too few, comes ahead of which they are, and of what it says.
				wantBad(t, api.Out{Base: base, Next: [][]int{slices.Repeat([]int{-1}, n)}, Outs: []int{99}}, api.ErrShape)
				// All of a state comes ahead of all of the next one.
				wantBad(t, api.Out{Base: base, Next: [][]int{slices.Repeat([]int{-1}, k), make([]int, n)}, Outs: []int{0, 0}}, api.ErrRange)
				wantBad(t, api.Out{Base: base, Next: [][]int{make([]int, k), make([]int, n)}, Outs: []int{10, 0}}, api.ErrRange)
				wantBad(t, api.Out{Base: base, Next: [][]int{make([]int, n), slices.Repeat([]int{-1}, k)}, Outs: []int{0, 0}}, api.ErrShape)
			}
		}
		for x := range k {
			for _, next := range []int{math.MinInt, -1, 2, math.MaxInt} {
				o := api.Out{Base: base, Next: [][]int{make([]int, k), make([]int, k)}, Outs: []int{0, 0}}
				o.Next[1][x] = next
				wantBad(t, o, api.ErrRange)
			}
		}
		for _, v := range []int{math.MinInt, -1, 10, math.MaxInt} {
			wantBad(t, api.Out{Base: base, Next: [][]int{make([]int, k)}, Outs: []int{v}}, api.ErrRange)
			// Also of a state to which nothing leads.
			wantBad(t, api.Out{Base: base, Next: [][]int{make([]int, k), make([]int, k)}, Outs: []int{0, v}}, api.ErrRange)
		}
	}
}

// TestO1WrongNumbers: numbers that are too small or too great.
func TestO1WrongNumbers(t *testing.T) {
	for _, name := range []string{"thue", "rudin", "fibo"} {
		o := named(t, name)
		for _, n := range []int{math.MinInt, -1, api.MaxNum + 1, math.MaxInt} {
			if got, err := word.At(o, n); got != 0 || plain.Told(err) != api.ErrRange {
				t.Errorf("At(%s, %d): got %v %v", name, n, got, err)
			}
		}
		for _, n := range []int{math.MinInt, -1, api.MaxList + 1, api.MaxNum, math.MaxInt} {
			if got, err := word.Head(o, n); got != nil || plain.Told(err) != api.ErrRange {
				t.Errorf("Head(%s, %d): got %v %v", name, n, got, err)
			}
		}
		for _, v := range []int{math.MinInt, -2, -1, api.MaxOut + 1, math.MaxInt} {
			if got, err := word.Is(o, v); !empty(got) || plain.Told(err) != api.ErrRange {
				t.Errorf("Is(%s, %d): got %v %v", name, v, got, err)
			}
		}
	}
}

func TestO2Examples(t *testing.T) {
	thue, rudin, fibo := named(t, "thue"), named(t, "rudin"), named(t, "fibo")
	wantIs(t, thue, 1, api.Auto{Base: 2, Tracks: 1, Next: [][]int{{0, 1}, {1, 0}}, Ends: []bool{false, true}})
	wantIs(t, thue, 0, api.Auto{Base: 2, Tracks: 1, Next: [][]int{{0, 1}, {1, 0}}, Ends: []bool{true, false}})
	// An output that is never said.
	wantIs(t, thue, 9, api.Auto{Base: 2, Tracks: 1, Next: [][]int{{0, 0}}, Ends: []bool{false}})
	wantIs(t, rudin, 0, api.Auto{Base: 2, Tracks: 1, Next: [][]int{{0, 1}, {0, 2}, {3, 1}, {3, 2}}, Ends: []bool{true, true, false, false}})
	// Of Fib a word with two 1s side by side is never taken.
	wantIs(t, fibo, 1, api.Auto{Base: api.Fib, Tracks: 1, Next: [][]int{{0, 1}, {0, 2}, {2, 2}}, Ends: []bool{false, true, false}})
	wantIs(t, fibo, 0, api.Auto{Base: api.Fib, Tracks: 1, Next: [][]int{{0, 1}, {0, 2}, {2, 2}}, Ends: []bool{true, false, false}})
	// thue at x is thue at y, if their 1s are together even.
	if got, want := like(t, thue, thue), (api.Auto{Base: 2, Tracks: 2, Next: [][]int{{0, 1, 1, 0}, {1, 0, 0, 1}}, Ends: []bool{true, false}}); !equal(got, want) {
		t.Errorf("Like(thue, thue): got %v, want %v", got, want)
	}
}

// TestO2ZerosAhead: 0s ahead do not count, also where the digit 0 leads away from where an Out begins.
func TestO2ZerosAhead(t *testing.T) {
	// It says 1, if it has read a digit 0; so of numbers it says so of those with a 0 behind their first digit.
	o := api.Out{Base: 2, Next: [][]int{{1, 0}, {1, 1}}, Outs: []int{0, 1}}
	wantHead(t, o, 9, []int{0, 0, 1, 0, 1, 1, 1, 0, 1})
	wantIs(t, o, 1, api.Auto{Base: 2, Tracks: 1, Next: [][]int{{0, 1}, {2, 1}, {2, 2}}, Ends: []bool{false, false, true}})
	wantIs(t, o, 0, api.Auto{Base: 2, Tracks: 1, Next: [][]int{{0, 1}, {2, 1}, {2, 2}}, Ends: []bool{true, true, false}})
	// A first state to which no digit leads back says something of 0 alone.
	zero := api.Out{Base: 3, Next: [][]int{{1, 1, 1}, {1, 1, 1}}, Outs: []int{7, 4}}
	wantHead(t, zero, 5, []int{7, 4, 4, 4, 4})
	wantIs(t, zero, 7, api.Auto{Base: 3, Tracks: 1, Next: [][]int{{0, 1, 1}, {1, 1, 1}}, Ends: []bool{true, false}})
	wantIs(t, zero, 4, api.Auto{Base: 3, Tracks: 1, Next: [][]int{{0, 1, 1}, {1, 1, 1}}, Ends: []bool{false, true}})
	// Of two tracks each one has 0s of its own ahead.
	both := like(t, o, o)
	for _, c := range []struct {
		x, y int
		want bool
	}{{1, 7, true}, {1, 8, false}, {8, 2, true}, {0, 127, true}, {0, 126, false}, {2, 1 << 39, true}} {
		w, err := letter.Word(2, []int{c.x, c.y})
		if err != nil {
			t.Fatal(err)
		}
		for long := range 4 {
			if takes(t, both, append(make([]int, long), w...)) != c.want {
				t.Errorf("%d and %d, with %d 0s ahead: got %v", c.x, c.y, long, !c.want)
			}
		}
	}
	source := rand.New(rand.NewSource(3))
	for _, base := range bases {
		for range 20 {
			o := wild(source, base, 1+source.Intn(6), 1)
			autos := []api.Auto{is(t, o, 0), is(t, o, 1)}
			if a, err := word.Like(o, wild(source, base, 2, 1)); err == nil {
				autos = append(autos, a)
			}
			for _, a := range autos {
				if ok, err := some.Closed(a); !ok || err != nil {
					t.Errorf("%v: a word is taken without a 0 ahead, or with it, alone: %v", a, err)
				}
			}
		}
	}
}

// TestO2EachIs: Outs of each base and size, held against a way of making it that has more states than it needs.
func TestO2EachIs(t *testing.T) {
	source := rand.New(rand.NewSource(4))
	for _, base := range bases {
		for states := 1; states <= api.MaxOuts; states++ {
			for range 6 {
				o := wild(source, base, states, 1+source.Intn(api.MaxOut))
				for v := 0; v <= api.MaxOut; v++ {
					want := fewest(wide([]api.Out{o}, func(said []int) bool { return said[0] == v }))
					wantIs(t, o, v, want)
				}
			}
		}
	}
}

// TestO2MostOfIs: as many states as can come of an Out: one ahead of the number, one that is wrong, and of Fib two for each state.
func TestO2MostOfIs(t *testing.T) {
	code := make([]int, api.MaxOuts)
	code[7] = 1
	for _, base := range bases {
		o := sums(base, code...)
		for _, row := range o.Next {
			slices.Reverse(row)
		}
		want := fewest(wide([]api.Out{o}, func(said []int) bool { return said[0] == 1 }))
		many := api.MaxOuts + 1
		if base == api.Fib {
			many = 2*api.MaxOuts + 2
		}
		if len(want.Next) != many {
			t.Errorf("base %d: %d states, not %d", base, len(want.Next), many)
		}
		wantIs(t, o, 1, want)
	}
}

// TestO2EachLike: so it is with two.
func TestO2EachLike(t *testing.T) {
	source := rand.New(rand.NewSource(5))
	fits, full := 0, 0
	for _, base := range bases {
		for range 60 {
			most := 6 + source.Intn(api.MaxOuts-5)
			o, p := wild(source, base, 1+source.Intn(most), 1+source.Intn(3)), wild(source, base, 1+source.Intn(most), 1+source.Intn(3))
			if wantLike(t, o, p) <= api.MaxStates {
				fits++
			} else {
				full++
			}
		}
	}
	if fits < 50 || full < 50 {
		t.Errorf("%d fit, %d do not: too few", fits, full)
	}
}

// TestO2AllWords: a short word is taken just if it is right and it is so of its numbers.
func TestO2AllWords(t *testing.T) {
	source := rand.New(rand.NewSource(6))
	for _, base := range bases {
		k := kinds(base)
		for range 10 {
			o, p := wild(source, base, 1+source.Intn(4), 2), wild(source, base, 1+source.Intn(3), 2)
			var autos []api.Auto
			for v := range 3 {
				autos = append(autos, is(t, o, v))
			}
			eachWord(k, longest(k), func(w []int) {
				n, err := digit.Value(base, w)
				if err != nil {
					t.Fatal(err)
				}
				at, err := word.At(o, n)
				if err != nil {
					t.Fatal(err)
				}
				for v, a := range autos {
					if want := isRight(base, w) && at == v; takes(t, a, w) != want {
						t.Fatalf("Is(%v, %d): %v: got %v", o, v, w, !want)
					}
				}
			})
			both, err := word.Like(o, p)
			if err != nil {
				continue
			}
			eachWord(k*k, longest(k*k), func(w []int) {
				x, y := tracksOf(base, w)
				if want := isRight(base, x) && isRight(base, y) && said(o, x) == said(p, y); takes(t, both, w) != want {
					t.Fatalf("Like(%v, %v): %v: got %v", o, p, w, !want)
				}
			})
		}
	}
}

// TestO2WhateverSize: numbers far above the greatest that may be handed in.
func TestO2WhateverSize(t *testing.T) {
	source := rand.New(rand.NewSource(7))
	for _, base := range bases {
		o, p := wild(source, base, 3, 1), wild(source, base, 2, 1)
		one, both := is(t, o, 1), like(t, o, p)
		for range 200 {
			long := source.Intn(api.MaxLong + 1)
			var x, y, w []int
			for range long {
				x, y = append(x, source.Intn(kinds(base))), append(y, source.Intn(kinds(base)))
				// Else hardly one word of Fib would be right.
				if base == api.Fib && len(x) > 1 && source.Intn(300) > 0 {
					x[len(x)-1] &^= x[len(x)-2]
					y[len(y)-1] &^= y[len(y)-2]
				}
				w = append(w, x[len(x)-1]*kinds(base)+y[len(y)-1])
			}
			if want := isRight(base, x) && said(o, x) == 1; takes(t, one, x) != want {
				t.Errorf("Is(%v, 1): %v: got %v", o, x, !want)
			}
			if want := isRight(base, x) && isRight(base, y) && said(o, x) == said(p, y); takes(t, both, w) != want {
				t.Errorf("Like(%v, %v): %v: got %v", o, p, w, !want)
			}
		}
	}
}

// TestO2OtherWays: what Is says of one, and what Like says of two, comes out the other ways, too.
func TestO2OtherWays(t *testing.T) {
	source := rand.New(rand.NewSource(8))
	for _, base := range bases {
		for range 10 {
			o, p := wild(source, base, 1+source.Intn(3), 2), wild(source, base, 1+source.Intn(2), 2)
			none := must(t)(pair.Both(must(t)(right.All(base, 1)), must(t)(right.All(base, 1)), 0))
			any, twice := none, none
			either := must(t)(track.Spread(none, 2, []int{0}))
			for v := range 3 {
				isO, isP := is(t, o, v), is(t, p, v)
				twice = must(t)(pair.Both(twice, must(t)(pair.Both(any, isO, 8)), 14))
				any = must(t)(pair.Both(any, isO, 14))
				x, y := must(t)(track.Spread(isO, 2, []int{0})), must(t)(track.Spread(isP, 2, []int{1}))
				either = must(t)(pair.Both(either, must(t)(pair.Both(x, y, 8)), 14))
			}
			// Of each number something is said, and no two things.
			if !equal(any, must(t)(right.All(base, 1))) || !equal(twice, none) {
				t.Errorf("%v: said of %v, twice of %v", o, any, twice)
			}
			if got := like(t, o, p); !equal(got, either) {
				t.Errorf("Like(%v, %v): got %v, want %v", o, p, got, either)
			}
			if got := must(t)(track.Spread(like(t, p, o), 2, []int{1, 0})); !equal(got, either) {
				t.Errorf("Like(%v, %v): got %v, want %v, with the tracks changed", p, o, got, either)
			}
			// Each number is like itself.
			if got := must(t)(track.Spread(like(t, o, o), 1, []int{0, 0})); !equal(got, must(t)(right.All(base, 1))) {
				t.Errorf("Like(%v, %v) is not so of the same number: %v", o, o, got)
			}
		}
	}
}

// TestO2Full: as many states as may be, and one more.
func TestO2Full(t *testing.T) {
	for _, base := range bases[1:] {
		if got := wantLike(t, sums(base, 0, 1, 2, 3, 4, 5, 6, 7), sums(base, 0, 1, 2, 3, 4, 5, 6, 7, 8, 9)); got != api.MaxStates {
			t.Errorf("%d states: no edge", got)
		}
		if got := wantLike(t, sums(base, 0, 1, 2, 3, 4, 5, 6, 7, 8), sums(base, 1, 0, 2, 3, 4, 5, 6, 7, 8)); got != api.MaxStates+1 {
			t.Errorf("%d states: no edge", got)
		}
		// Many states that come to few.
		twenty := make([]int, api.MaxOuts)
		if got := wantLike(t, sums(base, twenty...), sums(base, twenty...)); got != 1 {
			t.Errorf("%d states", got)
		}
		for i := range twenty {
			twenty[i] = i % 10
		}
		if got := wantLike(t, sums(base, twenty...), sums(base, twenty...)); got != 10 {
			t.Errorf("%d states", got)
		}
	}
	// Of Fib each spot is there once for each letter that was read last: so few Outs come to many.
	if got := wantLike(t, sums(api.Fib, 0, 1, 2), sums(api.Fib, 0, 1, 2, 3, 4, 5)); got <= 18 || got > api.MaxStates {
		t.Errorf("%d states", got)
	}
	if got := wantLike(t, sums(api.Fib, 0, 1, 2, 3, 4), sums(api.Fib, 0, 1, 2, 3, 4, 5)); got <= api.MaxStates {
		t.Errorf("%d states", got)
	}
	twenty := make([]int, api.MaxOuts)
	all := must(t)(right.All(api.Fib, 2))
	if got := like(t, sums(api.Fib, twenty...), sums(api.Fib, twenty...)); !equal(got, all) {
		t.Errorf("got %v, want all", got)
	}
}

// TestO2Wrong: of two that may not go together what is wrong, in its order.
func TestO2Wrong(t *testing.T) {
	one := func(base int) api.Out { return sums(base, 1) }
	for _, base := range bases {
		for _, other := range bases {
			got, err := word.Like(one(base), one(other))
			if base != other && (!empty(got) || plain.Told(err) != api.ErrShape) {
				t.Errorf("bases %d and %d: got %v %v", base, other, got, err)
			}
			if base == other && !equal(got, must(t)(right.All(base, 2))) {
				t.Errorf("base %d: got %v %v", base, got, err)
			}
		}
		// All that is wrong with the first one comes ahead of all that is wrong with the second; that ahead of what they have not alike.
		for _, c := range []struct {
			o, p api.Out
			want api.Errno
		}{
			{api.Out{Base: base}, api.Out{Base: 7}, api.ErrNone},
			{api.Out{Base: 7}, api.Out{Base: base}, api.ErrRange},
			{one(base), api.Out{Base: 7}, api.ErrRange},
			{one(base), api.Out{Base: base%6 + 1}, api.ErrNone},
			{api.Out{Base: base, Next: one(base).Next}, one(base%6 + 1), api.ErrShape},
			{one(base), api.Out{Base: base, Next: one(base).Next, Outs: []int{10}}, api.ErrRange},
			{one(base), api.Out{Base: base%6 + 1, Next: one(base%6 + 1).Next, Outs: []int{10}}, api.ErrRange},
			{sums(base, 0, 1, 2, 3, 4, 5, 6, 7, 8, 9), sums(base%6+1, 9, 1, 2, 3, 4, 5, 6, 7, 8, 0), api.ErrShape},
		} {
			if got, err := word.Like(c.o, c.p); !empty(got) || plain.Told(err) != c.want {
				t.Errorf("Like(%v, %v): got %v %v, want %v", c.o, c.p, got, err, c.want)
			}
		}
	}
}

// TestAgree: of one number it is as Like of twice the same, and as each output on its own says, also where Like has too many states.
func TestAgree(t *testing.T) {
	source := rand.New(rand.NewSource(9))
	for _, base := range bases {
		for range 30 {
			o, p := wild(source, base, 1+source.Intn(7), 2), wild(source, base, 1+source.Intn(7), 2)
			wasO, wasP := cloneOut(o), cloneOut(p)
			got := must(t)(word.Agree(o, p))
			if !equalOut(o, wasO) || !equalOut(p, wasP) {
				t.Fatalf("%v or %v was written into: %v, %v", wasO, wasP, o, p)
			}
			want := must(t)(pair.Both(got, got, 0))
			for v := range 3 {
				want = must(t)(pair.Both(want, must(t)(pair.Both(is(t, o, v), is(t, p, v), 8)), 14))
			}
			if !equal(got, want) {
				t.Errorf("Agree(%v, %v): got %v, want %v", o, p, got, want)
			}
			if two := like(t, o, p); !equal(got, must(t)(track.Spread(two, 1, []int{0, 0}))) {
				t.Errorf("Agree(%v, %v): got %v, but of two %v", o, p, got, two)
			}
		}
		nine := sums(base, 0, 1, 2, 3, 4, 5, 6, 7, 8)
		if got := must(t)(word.Agree(nine, nine)); !equal(got, must(t)(right.All(base, 1))) {
			t.Errorf("base %d: %v", base, got)
		}
		other := sums(base, 1, 0, 2, 3, 4, 5, 6, 7, 8)
		if wantLike(t, nine, other) <= api.MaxStates {
			t.Errorf("base %d: Like has not too many states", base)
		}
		if got := must(t)(word.Agree(nine, other)); !equal(got, is(t, sums(base, 0, 0, 1, 1, 1, 1, 1, 1, 1), 1)) {
			t.Errorf("base %d: %v", base, got)
		}
		for _, wrong := range []struct {
			o, p api.Out
			want api.Errno
		}{
			{api.Out{Base: 7}, api.Out{Base: base}, api.ErrRange},
			{nine, api.Out{Base: base}, api.ErrNone},
			{nine, sums(base%6+1, 0), api.ErrShape},
		} {
			if got, err := word.Agree(wrong.o, wrong.p); !empty(got) || plain.Told(err) != wrong.want {
				t.Errorf("Agree(%v, %v): got %v %v, want %v", wrong.o, wrong.p, got, err, wrong.want)
			}
		}
	}
}

func TestO3Morph(t *testing.T) {
	wantMorph(t, [][]int{{0, 1}, {1, 0}}, []int{0, 1}, api.Out{Base: 2, Next: [][]int{{0, 1}, {1, 0}}, Outs: []int{0, 1}})
	wantMorph(t, [][]int{{0, 0, 0}}, []int{9}, api.Out{Base: 3, Next: [][]int{{0, 0, 0}}, Outs: []int{9}})
	source := rand.New(rand.NewSource(9))
	for base := 2; base <= api.MaxBase; base++ {
		for _, states := range []int{1, 2, 5, api.MaxOuts} {
			want := wild(source, base, states, api.MaxOut)
			want.Next[0][0] = 0
			wantMorph(t, want.Next, want.Outs, want)
			got, err := word.Morph(want.Next, want.Outs)
			if err != nil || word.Check(got) != nil {
				t.Errorf("Check(%v): %v %v", got, err, word.Check(got))
			}
			// The word of rules is one and the same, if for each number of it stands its rule: what the code says of it is what is said.
			letters := []int{0}
			for len(letters) < api.MaxList {
				var grown []int
				for _, x := range letters {
					grown = append(grown, want.Next[x]...)
				}
				letters = grown
			}
			var head []int
			for _, x := range letters[:api.MaxList] {
				head = append(head, want.Outs[x])
			}
			wantHead(t, got, api.MaxList, head)
		}
	}
}

// TestO3Wrong: what is wrong with rules, in its order.
func TestO3Wrong(t *testing.T) {
	wantNoMorph(t, nil, nil, api.ErrNone)
	wantNoMorph(t, [][]int{}, []int{99}, api.ErrNone)
	more := slices.Repeat([][]int{{0, 0}}, api.MaxOuts+1)
	for _, n := range []int{0, 1, 7, 36, 1000} {
		wantNoMorph(t, [][]int{make([]int, n)}, []int{0}, api.ErrRange)
		wantNoMorph(t, append([][]int{make([]int, n)}, more...), nil, api.ErrRange)
		wantNoMorph(t, [][]int{make([]int, n), {0, 0}}, []int{0, 0}, api.ErrRange)
	}
	wantNoMorph(t, more, make([]int, api.MaxOuts+1), api.ErrFull)
	wantNoMorph(t, append(slices.Clone(more), []int{0}), nil, api.ErrFull)
	wantNoMorph(t, append([][]int{{1, -1}}, more...), nil, api.ErrFull)
	for _, row := range [][]int{nil, {0}, {0, 0, 0}, {-1}, {9, 9, 9}} {
		wantNoMorph(t, [][]int{{0, 1}, row}, []int{0, 1}, api.ErrShape)
		// All lengths come ahead of all numbers.
		wantNoMorph(t, [][]int{{0, 3}, {0, 1}, row}, []int{0, 1, 0}, api.ErrShape)
		wantNoMorph(t, [][]int{{1, -1}, row, {0, 1}}, nil, api.ErrShape)
	}
	for _, n := range []int{math.MinInt, -1, 2, math.MaxInt} {
		wantNoMorph(t, [][]int{{0, n}, {1, 0}}, []int{0, 1}, api.ErrRange)
		wantNoMorph(t, [][]int{{n, 0}, {1, 0}}, []int{0, 1}, api.ErrRange)
		wantNoMorph(t, [][]int{{0, 1}, {0, n}}, []int{0, 1}, api.ErrRange)
		// That comes ahead of where the first rule leads, and of the code.
		wantNoMorph(t, [][]int{{1, 1}, {0, n}}, nil, api.ErrRange)
	}
	wantNoMorph(t, [][]int{{1, 0}, {0, 1}}, []int{0, 1}, api.ErrShape)
	wantNoMorph(t, [][]int{{1, 0}, {0, 1}}, []int{0, 10}, api.ErrShape)
	for _, code := range [][]int{nil, {0}, {0, 1, 2}, {99}, {-1, -1, -1}} {
		wantNoMorph(t, [][]int{{0, 1}, {0, 1}}, code, api.ErrShape)
	}
	for _, v := range []int{math.MinInt, -1, 10, math.MaxInt} {
		wantNoMorph(t, [][]int{{0, 1}, {0, 1}}, []int{v, 0}, api.ErrRange)
		wantNoMorph(t, [][]int{{0, 1}, {0, 1}}, []int{0, v}, api.ErrRange)
	}
}

func TestO3Named(t *testing.T) {
	for name, want := range map[string]api.Out{
		"thue":  {Base: 2, Next: [][]int{{0, 1}, {1, 0}}, Outs: []int{0, 1}},
		"rudin": {Base: 2, Next: [][]int{{0, 1}, {0, 2}, {3, 1}, {3, 2}}, Outs: []int{0, 0, 1, 1}},
		"fibo":  {Base: api.Fib, Next: [][]int{{0, 1}, {0, 1}}, Outs: []int{0, 1}},
	} {
		if got := named(t, name); !equalOut(got, want) || word.Check(got) != nil {
			t.Errorf("Named(%q): got %v, want %v", name, got, want)
		}
	}
	for _, name := range []string{"", "x", "Thue", "thue ", " thue", "thu", "thues", "rudi", "fib", "fibo\x00", "\xff"} {
		if got, err := word.Named(name); !emptyOut(got) || plain.Told(err) != api.ErrNone {
			t.Errorf("Named(%q): got %v %v", name, got, err)
		}
	}
}

// TestO1BehindTheLength: what lies behind a list's length is neither read nor written.
func TestO1BehindTheLength(t *testing.T) {
	first, second, third := []int{0, 1, 99, -1}, []int{1, 0, 99, -1}, []int{7, 7}
	rows, code := [][]int{first[:2], second[:2], third, nil}, []int{0, 1, 99, -1}
	o := api.Out{Base: 2, Next: rows[:2], Outs: code[:2]}
	thue := named(t, "thue")
	if err := word.Check(o); err != nil {
		t.Errorf("Check: %v", err)
	}
	wantAt(t, o, 7, 1)
	wantHead(t, o, 4, []int{0, 1, 1, 0})
	wantIs(t, o, 1, is(t, thue, 1))
	if !equal(like(t, o, o), like(t, thue, thue)) {
		t.Errorf("Like(%v, %v) is not that of thue", o, o)
	}
	wantMorph(t, rows[:2], code[:2], thue)
	wantNoMorph(t, rows[:2], code[:1], api.ErrShape)
	if !slices.Equal(first, []int{0, 1, 99, -1}) || !slices.Equal(second, []int{1, 0, 99, -1}) || !slices.Equal(code, []int{0, 1, 99, -1}) || !slices.Equal(rows[2], third) || rows[3] != nil {
		t.Errorf("written into: %v %v", rows, code)
	}
}

// scribble writes into all memory of rows, row by row, also behind the lengths; no row shares any with another.
func scribble(t *testing.T, rows [][]int) {
	t.Helper()
	was := cloneRows(rows)
	for i, row := range rows {
		for x := range row[:cap(row)] {
			row[:cap(row)][x] = 77
		}
		for behind := i + 1; behind < len(rows); behind++ {
			if !slices.Equal(rows[behind], was[behind]) {
				t.Fatalf("rows %d and %d share memory", i, behind)
			}
		}
	}
	for i := range rows[:cap(rows)] {
		rows[:cap(rows)][i] = nil
	}
}

// TestO2FreshMemory: what comes out is the caller's, and what was handed in stays.
func TestO2FreshMemory(t *testing.T) {
	source := rand.New(rand.NewSource(10))
	for _, base := range bases {
		o := wild(source, base, 3, 1)
		was := cloneOut(o)
		for _, fresh := range []func() api.Auto{
			func() api.Auto { return is(t, o, 1) },
			func() api.Auto { return like(t, o, o) },
		} {
			got, again := fresh(), fresh()
			scribble(t, got.Next)
			for i := range got.Ends[:cap(got.Ends)] {
				got.Ends[:cap(got.Ends)][i] = !got.Ends[:cap(got.Ends)][i]
			}
			if !equalOut(o, was) || !equal(fresh(), again) {
				t.Errorf("base %d: what was written into comes back", base)
			}
		}
		head, err := word.Head(o, 5)
		if err != nil {
			t.Fatal(err)
		}
		kept := slices.Clone(head)
		scribble(t, [][]int{head})
		wantHead(t, o, 5, kept)
	}
}

// TestO3FreshMemory: what is made of rules does not share their memory, nor do two of the same name.
func TestO3FreshMemory(t *testing.T) {
	rule := []int{0, 0}
	rules, code := [][]int{rule, rule, rule}, []int{3, 2, 1}
	got, err := word.Morph(rules, code)
	if err != nil {
		t.Fatal(err)
	}
	again := cloneOut(got)
	scribble(t, append(got.Next, got.Outs))
	wantMorph(t, rules, code, again)
	if !slices.Equal(rule, []int{0, 0}) || !slices.Equal(code, []int{3, 2, 1}) {
		t.Errorf("written into: %v %v", rule, code)
	}
	// A list that stands there as a rule and as the code.
	got, err = word.Morph([][]int{rule, rule}, rule)
	if err != nil {
		t.Fatal(err)
	}
	rule[0] = 5
	if !equalOut(got, api.Out{Base: 2, Next: [][]int{{0, 0}, {0, 0}}, Outs: []int{0, 0}}) {
		t.Errorf("the rules were kept: %v", got)
	}
	for _, name := range []string{"thue", "rudin", "fibo"} {
		want := cloneOut(named(t, name))
		got := named(t, name)
		scribble(t, append(got.Next, got.Outs))
		if again := named(t, name); !equalOut(again, want) {
			t.Errorf("Named(%q): got %v, want %v", name, again, want)
		}
	}
}

// TestO2Least: nothing becomes fewer, and the order is that of Reach.
func TestO2Least(t *testing.T) {
	source := rand.New(rand.NewSource(11))
	for _, base := range bases {
		for range 20 {
			o := wild(source, base, 1+source.Intn(api.MaxOuts), 3)
			got := is(t, o, source.Intn(4))
			if !equal(got, must(t)(least.Least(got))) {
				t.Errorf("%v: not the least: %v", o, got)
			}
			if both, err := word.Like(o, o); err == nil && !equal(both, must(t)(least.Least(both))) {
				t.Errorf("%v: not the least: %v", o, both)
			}
		}
	}
}
