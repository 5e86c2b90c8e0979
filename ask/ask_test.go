package ask_test

import (
	"math"
	"math/rand"
	"slices"
	"testing"

	"filbert/api"
	"filbert/ask"
	"filbert/digit"
	"filbert/letter"
	"filbert/line"
	"filbert/plain"
	"filbert/prove"
	"filbert/text"
	"filbert/word"
)

var bases = []int{api.Fib, 2, 3, 4, 5, api.MaxBase}

// letters: of each base, how many there are of so many tracks.
var letters = map[int][]int{
	api.Fib: {1, 2, 4, 8, 16, 32},
	2:       {1, 2, 4, 8, 16, 32},
	3:       {1, 3, 9, 27},
	4:       {1, 4, 16},
	5:       {1, 5, 25},
	6:       {1, 6, 36},
}

// eachShape calls f with every base and every count of tracks that go together.
func eachShape(f func(base, tracks, many int)) {
	for _, base := range bases {
		for tracks, many := range letters[base] {
			f(base, tracks, many)
		}
	}
}

// still: an automaton of so many states, none of which leads to another.
func still(base, tracks, states int) api.Auto {
	a := api.Auto{Base: base, Tracks: tracks, Ends: make([]bool, states)}
	for state := range states {
		a.Next = append(a.Next, slices.Repeat([]int{state}, letters[base][tracks]))
	}
	return a
}

// lost: an automaton of so many states, all of which lead to the last one.
func lost(base, tracks, states int) api.Auto {
	a := still(base, tracks, states)
	for _, nexts := range a.Next {
		for x := range nexts {
			nexts[x] = states - 1
		}
	}
	return a
}

// wild: an automaton of so many states that lead anywhere; one state in so many is an end.
func wild(source *rand.Rand, base, tracks, states, ends int) api.Auto {
	a := still(base, tracks, states)
	for state := range states {
		a.Ends[state] = source.Intn(ends) == 0
		for x := range a.Next[state] {
			a.Next[state][x] = source.Intn(states)
		}
	}
	return a
}

// narrow: as wild, but of most states most letters lead to the last one, where no word ends.
func narrow(source *rand.Rand, base, tracks, states, ends int) api.Auto {
	a := wild(source, base, tracks, states, ends)
	for _, nexts := range a.Next {
		for x := range nexts {
			if source.Intn(len(nexts)) > 0 {
				nexts[x] = states - 1
			}
		}
	}
	a.Ends[states-1] = false
	a.Next[states-1] = slices.Repeat([]int{states - 1}, len(a.Next[0]))
	return a
}

// round: each state leads to the one behind it, the last one to the first; one is an end.
func round(base, tracks, states, end int) api.Auto {
	a := still(base, tracks, states)
	for state := range states {
		for x := range a.Next[state] {
			a.Next[state][x] = (state + 1) % states
		}
	}
	a.Ends[end] = true
	return a
}

// not: takes the words that a does not take.
func not(a api.Auto) api.Auto {
	b := clone(a)
	for state := range b.Ends {
		b.Ends[state] = !a.Ends[state]
	}
	return b
}

// just: takes this word alone.
func just(base, tracks int, w []int) api.Auto {
	a := lost(base, tracks, len(w)+2)
	for i, x := range w {
		a.Next[i][x] = i + 1
	}
	a.Ends[len(w)] = true
	return a
}

// ring: of one track, takes the words of a 1 and 0s behind it that have so many letters, or so many times turn more.
func ring(base, long, turn int) api.Auto {
	a := lost(base, 1, long+turn+1)
	a.Next[0][1] = 1
	for state := 1; state < long+turn-1; state++ {
		a.Next[state][0] = state + 1
	}
	a.Next[long+turn-1][0] = long
	a.Ends[long] = true
	return a
}

// oneAndZeros: a 1, and 0s behind it, so many letters in all.
func oneAndZeros(long int) []int {
	w := make([]int, long)
	w[0] = 1
	return w
}

func clone(a api.Auto) api.Auto {
	b := a
	b.Ends = slices.Clone(a.Ends)
	b.Next = nil
	for _, nexts := range a.Next {
		b.Next = append(b.Next, slices.Clone(nexts))
	}
	return b
}

func equal(a, b api.Auto) bool {
	return a.Base == b.Base && a.Tracks == b.Tracks && slices.Equal(a.Ends, b.Ends) && slices.EqualFunc(a.Next, b.Next, slices.Equal)
}

func same(a, b [][]int) bool { return slices.EqualFunc(a, b, slices.Equal) }

func wantFirst(t *testing.T, a api.Auto, want []int) {
	t.Helper()
	if got, err := ask.First(a); err != nil || !slices.Equal(got, want) {
		t.Errorf("First(%v): got %v %v, want %v", a, got, err, want)
	}
}

func wantTuple(t *testing.T, a api.Auto, want []int) {
	t.Helper()
	if got, err := ask.Tuple(a); err != nil || !slices.Equal(got, want) {
		t.Errorf("Tuple(%v): got %v %v, want %v", a, got, err, want)
	}
}

func wantNoTuple(t *testing.T, a api.Auto, errno api.Errno) {
	t.Helper()
	if got, err := ask.Tuple(a); got != nil || plain.Told(err) != errno {
		t.Errorf("Tuple(%v): got %v %v, want %v", a, got, err, errno)
	}
}

func wantFinite(t *testing.T, a api.Auto, want bool) {
	t.Helper()
	if got, err := ask.Finite(a); err != nil || got != want {
		t.Errorf("Finite(%v): got %v %v, want %v", a, got, err, want)
	}
}

func wantList(t *testing.T, a api.Auto, most int, want [][]int) {
	t.Helper()
	if got, err := ask.List(a, most); err != nil || !same(got, want) {
		t.Errorf("List(%v, %d): got %v %v, want %v", a, most, got, err, want)
	}
}

func wantNoList(t *testing.T, a api.Auto, most int, errno api.Errno) {
	t.Helper()
	if got, err := ask.List(a, most); got != nil || plain.Told(err) != errno {
		t.Errorf("List(%v, %d): got %v %v, want %v", a, most, got, err, errno)
	}
}

// wantNone: no clean word is taken.
func wantNone(t *testing.T, a api.Auto) {
	t.Helper()
	if got, err := ask.First(a); got != nil || plain.Told(err) != api.ErrNone {
		t.Errorf("First(%v): got %v %v, want ErrNone", a, got, err)
	}
	wantNoTuple(t, a, api.ErrNone)
	wantFinite(t, a, true)
	wantList(t, a, api.MaxList, nil)
}

// wantWrong: what is wrong with an automaton is said ahead of all else.
func wantWrong(t *testing.T, a api.Auto, errno api.Errno) {
	t.Helper()
	if got, err := ask.First(a); got != nil || plain.Told(err) != errno {
		t.Errorf("First(%v): got %v %v, want %v", a, got, err, errno)
	}
	wantNoTuple(t, a, errno)
	if got, err := ask.Finite(a); got || plain.Told(err) != errno {
		t.Errorf("Finite(%v): got %v %v, want %v", a, got, err, errno)
	}
	for _, most := range []int{0, 1, api.MaxList, -1, api.MaxList + 1, math.MinInt, math.MaxInt} {
		wantNoList(t, a, most, errno)
	}
}

// eachClean calls f with each clean word of at most so many letters, in the order of words.
func eachClean(many, long int, f func(w []int)) {
	words := [][]int{nil}
	for range long + 1 {
		var longer [][]int
		for _, w := range words {
			f(w)
			for x := range many {
				if x > 0 || len(w) > 0 {
					longer = append(longer, append(slices.Clone(w), x))
				}
			}
		}
		words = longer
	}
}

// ends: does a word lead to an end?
func ends(a api.Auto, w []int) bool {
	state := 0
	for _, x := range w {
		state = a.Next[state][x]
	}
	return a.Ends[state]
}

// taken: the clean words that are taken, of those with at most so many letters.
func taken(a api.Auto, long int) [][]int {
	var list [][]int
	eachClean(len(a.Next[0]), long, func(w []int) {
		if ends(a, w) {
			list = append(list, w)
		}
	})
	return list
}

// paths: of each two states, does a word of one letter or more lead from the one to the other?
func paths(a api.Auto) [][]bool {
	lead := make([][]bool, len(a.Next))
	for state, nexts := range a.Next {
		lead[state] = make([]bool, len(a.Next))
		for _, next := range nexts {
			lead[state][next] = true
		}
	}
	for by := range lead {
		for from := range lead {
			for to := range lead {
				lead[from][to] = lead[from][to] || lead[from][by] && lead[by][to]
			}
		}
	}
	return lead
}

// finite: is there no state, met behind a clean first letter, from which words lead back to it, and some to an end?
func finite(a api.Auto) bool {
	lead := paths(a)
	for _, start := range a.Next[0][1:] {
		for at := range lead {
			if at != start && !lead[start][at] || !lead[at][at] {
				continue
			}
			for to, end := range a.Ends {
				if end && (to == at || lead[at][to]) {
					return false
				}
			}
		}
	}
	return true
}

// three: takes the words of numbers that 3 divides.
var three = api.Auto{Base: 2, Tracks: 1, Next: [][]int{{0, 1}, {2, 0}, {1, 2}}, Ends: []bool{true, false, false}}

// TestQ1Examples: some words, seen through.
func TestQ1Examples(t *testing.T) {
	wantFirst(t, three, nil)
	wantTuple(t, three, []int{0})
	wantFinite(t, three, false)
	wantList(t, three, 6, [][]int{{}, {1, 1}, {1, 1, 0}, {1, 0, 0, 1}, {1, 1, 0, 0}, {1, 1, 1, 1}})
	more := clone(three)
	more.Ends = []bool{false, false, true}
	wantFirst(t, more, []int{1, 0})
	wantTuple(t, more, []int{2})
	wantFinite(t, more, false)
	wantList(t, more, 3, [][]int{{1, 0}, {1, 0, 1}, {1, 0, 0, 0}})
	some := api.Auto{Base: 3, Tracks: 1, Next: [][]int{{0, 2, 1}, {2, 2, 2}, {3, 1, 3}, {3, 3, 3}}, Ends: []bool{false, true, true, false}}
	wantFirst(t, some, []int{1})
	wantTuple(t, some, []int{1})
	wantFinite(t, some, false)
	wantList(t, some, 4, [][]int{{1}, {2}, {1, 1}, {2, 0}})
}

// TestQ1NotClean: words that begin with the letter 0 are none of those that are asked for, though others behind 0s may be.
func TestQ1NotClean(t *testing.T) {
	eachShape(func(base, tracks, many int) {
		zero := lost(base, tracks, 3)
		zero.Next[0][0] = 1
		zero.Next[1] = slices.Repeat([]int{1}, many)
		zero.Ends[1] = true
		wantNone(t, zero)
		zero.Ends[0] = true
		wantFirst(t, zero, nil)
		wantTuple(t, zero, make([]int, tracks))
		wantFinite(t, zero, true)
		wantList(t, zero, api.MaxList, [][]int{{}})
		for x := 1; x < many; x++ {
			ahead := lost(base, tracks, 3)
			ahead.Next[0][0], ahead.Next[0][x] = 0, 1
			ahead.Ends[1] = true
			wantFirst(t, ahead, []int{x})
			wantFinite(t, ahead, true)
			wantList(t, ahead, api.MaxList, [][]int{{x}})
			// Once behind another letter, 0s are as good as others, also where they lead back to the beginning.
			ahead.Next[1][0] = 0
			wantFinite(t, ahead, false)
			wantList(t, ahead, 4, [][]int{{x}, {x, 0, x}, {x, 0, 0, x}, {x, 0, 0, 0, x}})
		}
	})
}

// TestQ1None: where nothing clean is taken.
func TestQ1None(t *testing.T) {
	eachShape(func(base, tracks, many int) {
		wantNone(t, still(base, tracks, 1))
		wantNone(t, not(round(base, tracks, 1, 0)))
		far := still(base, tracks, 3)
		far.Ends[2] = true
		wantNone(t, far)
		wantNone(t, lost(base, tracks, api.MaxStates))
		if many > 1 {
			wantNone(t, just(base, tracks, []int{0}))
			wantNone(t, just(base, tracks, []int{0, 1, 1}))
		}
	})
}

// TestQ1OneWord: of any length that can be.
func TestQ1OneWord(t *testing.T) {
	source := rand.New(rand.NewSource(1))
	eachShape(func(base, tracks, many int) {
		for _, long := range []int{0, 1, 2, 3, 59, 60, 61, api.MaxStates - 2} {
			if many == 1 && long > 0 {
				continue
			}
			w := make([]int, long)
			for i := range w {
				w[i] = source.Intn(many)
			}
			if long > 0 {
				w[0] = 1 + source.Intn(many-1)
			}
			a := just(base, tracks, w)
			wantFirst(t, a, w)
			wantFinite(t, a, true)
			wantList(t, a, 0, nil)
			wantList(t, a, 1, [][]int{w})
			wantList(t, a, api.MaxList, [][]int{w})
			nums, err := letter.Nums(base, tracks, w)
			if err != nil {
				wantNoTuple(t, a, plain.Told(err))
			} else {
				wantTuple(t, a, nums)
			}
		}
	})
}

// TestQ1LongestFirst: the first word may have as many letters as there are states, if it comes through the beginning twice.
func TestQ1LongestFirst(t *testing.T) {
	a := lost(2, 1, api.MaxStates)
	a.Next[api.MaxStates-1] = []int{0, 0}
	for state := range api.MaxStates - 1 {
		a.Next[state] = []int{state + 1, 0}
	}
	a.Ends[api.MaxStates-1] = true
	wantFirst(t, a, oneAndZeros(api.MaxStates))
	wantNoTuple(t, a, api.ErrFull)
	wantFinite(t, a, false)
}

// TestQ1WildAutomata: every shape, held against all words one by one, and against which state leads to which.
func TestQ1WildAutomata(t *testing.T) {
	source := rand.New(rand.NewSource(2))
	infinite, none := 0, 0
	eachShape(func(base, tracks, many int) {
		long := 8
		if many > 2 {
			long = 5
		}
		if many > 6 {
			long = 3
		}
		if many > 16 {
			long = 2
		}
		for states := 1; states <= 7; states++ {
			for _, kind := range []func(*rand.Rand, int, int, int, int) api.Auto{wild, narrow} {
				a := kind(source, base, tracks, states, 1+source.Intn(4))
				wantFinite(t, a, finite(a))
				if !finite(a) {
					infinite++
				}
				list := taken(a, long)
				for _, most := range []int{0, 1, 2, 7, api.MaxList} {
					got, err := ask.List(a, most)
					if err != nil || len(got) > most || most <= len(list) && len(got) < most {
						t.Fatalf("List(%v, %d): got %v %v", a, most, got, err)
					}
					if n := min(len(got), len(list)); !same(got[:n], list[:n]) || n < min(most, len(list)) {
						t.Fatalf("List(%v, %d): got %v, want %v ahead", a, most, got, list)
					}
					wantInOrder(t, a, got)
				}
				got, err := ask.First(a)
				switch {
				case len(list) > 0:
					wantFirst(t, a, list[0])
				case err != nil:
					none++
					wantNone(t, a)
				case len(got) <= long || !ends(a, got):
					t.Fatalf("First(%v): got %v", a, got)
				}
			}
		}
	})
	if infinite < 100 || none < 20 {
		t.Errorf("%d automata took infinitely many, %d none", infinite, none)
	}
}

// wantInOrder: these are clean words that are taken, each one ahead of the next, and none has more than MaxLong letters.
func wantInOrder(t *testing.T, a api.Auto, list [][]int) {
	t.Helper()
	for i, w := range list {
		if !ends(a, w) || len(w) > api.MaxLong || len(w) > 0 && w[0] == 0 {
			t.Fatalf("List(%v): %v is none", a, w)
		}
		if i > 0 && (len(list[i-1]) > len(w) || len(list[i-1]) == len(w) && slices.Compare(list[i-1], w) >= 0) {
			t.Fatalf("List(%v): %v stands ahead of %v", a, list[i-1], w)
		}
	}
}

// TestQ1ManyWildStates: as many states as may be.
func TestQ1ManyWildStates(t *testing.T) {
	source := rand.New(rand.NewSource(3))
	eachShape(func(base, tracks, many int) {
		for _, states := range []int{63, 64, 65, api.MaxStates} {
			for _, a := range []api.Auto{wild(source, base, tracks, states, states/2), narrow(source, base, tracks, states, 3)} {
				wantFinite(t, a, finite(a))
				list, err := ask.List(a, api.MaxList)
				if err != nil {
					t.Fatal(err)
				}
				wantInOrder(t, a, list)
				if len(list) > 0 {
					wantFirst(t, a, list[0])
				}
			}
		}
	})
}

// TestQ1All: where each clean word is taken, and where none of its letters matters.
func TestQ1All(t *testing.T) {
	eachShape(func(base, tracks, many int) {
		all := round(base, tracks, 1, 0)
		wantFinite(t, all, many == 1)
		if many == 1 {
			wantList(t, all, api.MaxList, [][]int{{}})
			return
		}
		long := 1
		for size := many; size < api.MaxList; size *= many {
			long++
		}
		wantList(t, all, api.MaxList, taken(all, long)[:api.MaxList])
		// Beside the first one, words of n letters are taken, if the states divide n: far more than could be gone through are on the way to each.
		for _, states := range []int{7, 79, api.MaxStates} {
			far := round(base, tracks, states, 0)
			wantFinite(t, far, false)
			list, err := ask.List(far, api.MaxList)
			if err != nil || len(list) != api.MaxList || len(list[0]) != 0 || !slices.Equal(list[1], oneAndZeros(states)) {
				t.Fatalf("List(%v): got %v %v", far, list, err)
			}
			wantInOrder(t, far, list)
			far = round(base, tracks, states, states-1)
			wantFirst(t, far, oneAndZeros(states-1))
		}
	})
}

// TestQ1NoTracks: there is no clean word but the empty one.
func TestQ1NoTracks(t *testing.T) {
	for _, base := range bases {
		for _, states := range []int{1, 2, 3, api.MaxStates} {
			a := round(base, 0, states, 0)
			wantFirst(t, a, nil)
			wantTuple(t, a, nil)
			wantFinite(t, a, true)
			wantList(t, a, api.MaxList, [][]int{{}})
			wantList(t, a, 0, nil)
			wantNone(t, not(a))
		}
	}
}

// TestQ1Most: so many words, but not one more; fewer, if there are fewer.
func TestQ1Most(t *testing.T) {
	for _, most := range []int{math.MinInt, -api.MaxList, -1, api.MaxList + 1, math.MaxInt} {
		wantNoList(t, three, most, api.ErrRange)
		wantNoList(t, still(2, 1, 1), most, api.ErrRange)
	}
	whole, err := ask.List(three, api.MaxList)
	if err != nil || len(whole) != api.MaxList {
		t.Fatalf("got %v %v", whole, err)
	}
	for most := range api.MaxList + 1 {
		wantList(t, three, most, whole[:most])
	}
	for i, w := range whole {
		if want, err := digit.Of(2, 3*i); err != nil || !slices.Equal(w, want) {
			t.Errorf("%d: got %v, want %v", i, w, want)
		}
	}
	few := lost(5, 1, 4)
	few.Next[0] = []int{3, 1, 3, 1, 2}
	few.Next[1] = []int{3, 3, 2, 3, 2}
	few.Ends[2] = true
	wantFinite(t, few, true)
	list := [][]int{{4}, {1, 2}, {1, 4}, {3, 2}, {3, 4}}
	for most := range 10 {
		wantList(t, few, most, list[:min(most, len(list))])
	}
}

// TestQ1MaxLong: words of so many letters are listed, but not of one more.
func TestQ1MaxLong(t *testing.T) {
	for _, base := range bases {
		for _, c := range [][2]int{{1, 1}, {40, 20}, {39, 40}, {1, 57}, {1, 21}, {41, 38}, {2, 77}, {78, 1}, {3, 2}, {4, 3}, {1, 3}} {
			a := ring(base, c[0], c[1])
			var want [][]int
			for long := c[0]; long <= api.MaxLong && len(want) < api.MaxList; long += c[1] {
				want = append(want, oneAndZeros(long))
			}
			wantList(t, a, api.MaxList, want)
			wantFirst(t, a, want[0])
			wantFinite(t, a, false)
		}
	}
	// The words of the last one in each list have 400, 400, 399 and 381 letters: of the next ones 420, 457, 439 and 401.
	for _, c := range []struct{ long, turn, words, last int }{{40, 20, 19, api.MaxLong}, {1, 57, 8, api.MaxLong}, {39, 40, 10, api.MaxLong - 1}, {1, 20, 20, api.MaxLong - 19}} {
		if list, err := ask.List(ring(2, c.long, c.turn), api.MaxList); err != nil || len(list) != c.words || len(list[c.words-1]) != c.last {
			t.Errorf("%v: got %v %v", c, list, err)
		}
	}
}

// TestQ1Finite: what is far from the beginning, and what comes back late, or leads to no end.
func TestQ1Finite(t *testing.T) {
	for tail := 1; tail < api.MaxStates-1; tail++ {
		wantFinite(t, ring(2, tail, api.MaxStates-1-tail), false)
		line := just(2, 1, oneAndZeros(tail))
		wantFinite(t, line, true)
		// As many words as there can be on a way without a way back: behind each state all letters are good.
		for state := range tail {
			line.Next[state] = []int{state + 1, state + 1}
			line.Ends[state] = true
		}
		wantFinite(t, line, true)
		// A way back ahead of the first letter that is clean is none.
		line.Next[0][0] = 0
		wantFinite(t, line, true)
		for back := 1; back <= tail; back++ {
			there := clone(line)
			there.Next[tail][1] = back
			wantFinite(t, there, false)
		}
		line.Next[tail] = []int{0, 0}
		wantFinite(t, line, false)
	}
	// Words without an end lead round where none is taken, and where none leads.
	a := lost(2, 1, 5)
	a.Next[0], a.Next[1], a.Next[3] = []int{4, 1}, []int{2, 4}, []int{3, 2}
	a.Ends[2], a.Ends[3] = true, true
	wantFinite(t, a, true)
	wantList(t, a, 5, [][]int{{1, 0}})
}

// TestQ1Tuple: numbers as great as may be, and greater ones; and words that are not right.
func TestQ1Tuple(t *testing.T) {
	for _, base := range bases {
		for _, n := range []int{0, 1, 2, 3, 10, 1000, 1<<32 + 5, api.MaxNum - 1, api.MaxNum} {
			w, err := letter.Word(base, []int{n})
			if err != nil {
				t.Fatal(err)
			}
			wantTuple(t, just(base, 1, w), []int{n})
		}
	}
	top := oneAndZeros(41)
	wantTuple(t, just(2, 1, top), []int{api.MaxNum})
	top[40] = 1
	wantNoTuple(t, just(2, 1, top), api.ErrFull)
	wantNoTuple(t, just(2, 1, oneAndZeros(42)), api.ErrFull)
	for _, base := range bases {
		for _, long := range []int{api.MaxWord, api.MaxWord + 1, api.MaxStates - 2} {
			wantNoTuple(t, just(base, 1, oneAndZeros(long)), api.ErrFull)
		}
	}
	wantTuple(t, just(api.Fib, 1, []int{1, 1}), []int{3})
	wantTuple(t, just(api.Fib, 1, []int{1, 1, 1, 0}), []int{10})
	wantTuple(t, just(2, 2, []int{1, 0, 2}), []int{1, 4})
	wantTuple(t, just(3, 3, []int{1, 9, 5}), []int{3, 1, 11})
	wantNoTuple(t, just(2, 2, append([]int{1}, oneAndZeros(41)...)), api.ErrFull)
	wantNoTuple(t, just(2, 2, append([]int{2}, oneAndZeros(41)...)), api.ErrFull)
	wantTuple(t, just(2, 2, append([]int{3}, make([]int, 40)...)), []int{api.MaxNum, api.MaxNum})
}

// formulaOf a text.
func formulaOf(t *testing.T, s string) []api.Node {
	t.Helper()
	f, place, err := text.Parse(s)
	if err != nil {
		t.Fatalf("%s: %v at %d", s, err, place)
	}
	return f
}

// TestQ1Sums: the numbers of a sum, found one by one.
func TestQ1Sums(t *testing.T) {
	for _, base := range bases {
		a, err := line.Of(base, []int{1, -1}, 3, true)
		if err != nil {
			t.Fatal(err)
		}
		// Words of the same length come by the digits of both: no words of fewer letters have such numbers.
		want := first(t, base, func(x, y int) bool { return x+3 < y })
		wantTuple(t, a, want)
		wantFinite(t, a, false)
		if a, err = line.Of(base, []int{1, 1}, -7, false); err != nil {
			t.Fatal(err)
		}
		wantTuple(t, a, first(t, base, func(x, y int) bool { return x+y == 7 }))
		wantFinite(t, a, true)
		list, err := ask.List(a, api.MaxList)
		if err != nil || len(list) != 8 {
			t.Errorf("base %d: got %v %v", base, list, err)
		}
	}
}

// first: of pairs of small numbers for which it is so those with the first word.
func first(t *testing.T, base int, so func(x, y int) bool) []int {
	t.Helper()
	var nums, word []int
	for x := range 20 {
		for y := range 20 {
			w, err := letter.Word(base, []int{x, y})
			if err != nil {
				t.Fatal(err)
			}
			if so(x, y) && (nums == nil || len(w) < len(word) || len(w) == len(word) && slices.Compare(w, word) < 0) {
				nums, word = []int{x, y}, w
			}
		}
	}
	return nums
}

// TestQ1ShowsOne: of whatever is said that there is one, one can be shown; of what holds for all, none for which it is not so.
func TestQ1ShowsOne(t *testing.T) {
	named := func(name string) []api.Out {
		o, err := word.Named(name)
		if err != nil {
			t.Fatal(err)
		}
		return []api.Out{o}
	}
	for _, c := range []struct {
		base  int
		text  string
		words []api.Out
	}{
		{2, "a+a=13", nil}, {2, "a+a=14", nil}, {3, "3a=a+40", nil}, {api.Fib, "2a=a+9", nil}, {api.Fib, "a<0", nil},
		{5, "(a<20&17<a)", nil}, {6, "Ab:~b+2=a", nil}, {2, "Eb:a=3b", nil}, {4, "(11<a&Eb:a=5b)", nil},
		{2, "(@0[a]=1&3<a)", named("thue")}, {2, "Ab:(@0[b]=1|a<b)", named("thue")}, {4, "(2<a&@0[a]=1)", nil},
		{2, "(5<a&(@0[a]=1&Eb:(b=a+1&@0[b]=1)))", named("thue")},
		{api.Fib, "(7<a&@0[a]=1)", named("fibo")}, {2, "(@0[a]=1&@0[a]=0)", named("rudin")}, {2, "@0[a]=1", named("rudin")},
	} {
		if c.words == nil {
			c.words = named("thue")
			if c.base != 2 {
				c.words = []api.Out{tail(t, c.base)}
			}
		}
		wantShown(t, c.base, formulaOf(t, c.text), c.words)
	}
}

// tail: says 1, if the last digit is 1, else 0.
func tail(t *testing.T, base int) api.Out {
	t.Helper()
	if base == api.Fib {
		o, err := word.Named("fibo")
		if err != nil {
			t.Fatal(err)
		}
		return o
	}
	row, code := make([]int, base), make([]int, base)
	for x := range base {
		row[x] = x
	}
	code[1] = 1
	o, err := word.Morph(slices.Repeat([][]int{row}, base), code)
	if err != nil {
		t.Fatal(err)
	}
	return o
}

// wantShown: of variable 0 alone, the first word is that of the least number for which it is so, and there is none just if it is so of none.
func wantShown(t *testing.T, base int, f []api.Node, words []api.Out) {
	t.Helper()
	a, vars, err := prove.Of(base, f, words)
	if err != nil || !slices.Equal(vars, []int{0}) {
		t.Fatalf("base %d, %v: got %v %v", base, f, vars, err)
	}
	holds, err := prove.Holds(base, append([]api.Node{{Op: api.Some}}, f...), words)
	if err != nil {
		t.Fatalf("base %d, %v: %v", base, f, err)
	}
	if !holds {
		wantNone(t, a)
		return
	}
	nums, err := ask.Tuple(a)
	if err != nil {
		t.Fatalf("base %d, %v: %v", base, f, err)
	}
	for n := range nums[0] + 1 {
		w, err := letter.Word(base, []int{n})
		if err != nil || ends(a, w) != (n == nums[0]) {
			t.Errorf("base %d, %v: %d, but %d is told as the first %v", base, f, n, nums[0], err)
		}
	}
}

// TestQ1WrongAutomata: chapter 3's Check, ahead of all else.
func TestQ1WrongAutomata(t *testing.T) {
	for _, base := range []int{math.MinInt, -1, 0, api.MaxBase + 1, math.MaxInt} {
		wantWrong(t, api.Auto{Base: base, Tracks: 1, Next: [][]int{{0, 0}}, Ends: []bool{true}}, api.ErrRange)
	}
	for _, base := range bases {
		for _, tracks := range []int{math.MinInt, -1, api.MaxTracks + 1, math.MaxInt} {
			wantWrong(t, api.Auto{Base: base, Tracks: tracks, Next: [][]int{{0, 0}}, Ends: []bool{true}}, api.ErrRange)
		}
		for tracks := len(letters[base]); tracks <= api.MaxTracks; tracks++ {
			wantWrong(t, api.Auto{Base: base, Tracks: tracks}, api.ErrFull)
		}
	}
	wantWrong(t, api.Auto{}, api.ErrRange)
	eachShape(func(base, tracks, many int) {
		wantWrong(t, api.Auto{Base: base, Tracks: tracks}, api.ErrNone)
		wantWrong(t, api.Auto{Base: base, Tracks: tracks, Ends: []bool{true}}, api.ErrNone)
		wantWrong(t, still(base, tracks, api.MaxStates+1), api.ErrFull)
		for _, ends := range []int{0, 2, 4} {
			a := still(base, tracks, 3)
			a.Ends = make([]bool, ends)
			wantWrong(t, a, api.ErrShape)
		}
		for _, n := range []int{0, many - 1, many + 1} {
			a := still(base, tracks, 3)
			a.Next[2] = make([]int, n)
			wantWrong(t, a, api.ErrShape)
		}
		for _, next := range []int{math.MinInt, -1, 3, math.MaxInt} {
			a := still(base, tracks, 3)
			a.Next[2][many-1] = next
			wantWrong(t, a, api.ErrRange)
		}
	})
}

// TestQ1BehindTheLength: what lies behind a list's length is neither read nor written.
func TestQ1BehindTheLength(t *testing.T) {
	row := []int{2, 1, 99}
	next := [][]int{row[:2], {2, 1}, {2, 2}, {-1}}
	ends := []bool{false, true, false, true}
	a := api.Auto{Base: 2, Tracks: 1, Next: next[:3], Ends: ends[:3]}
	wantFirst(t, a, []int{1})
	wantTuple(t, a, []int{1})
	wantFinite(t, a, false)
	wantList(t, a, 3, [][]int{{1}, {1, 1}, {1, 1, 1}})
	if row[2] != 99 || len(next[3]) != 1 || next[3][0] != -1 || !ends[3] {
		t.Errorf("written into: %v %v %v", row, next, ends)
	}
}

// TestQ1FreshMemory: what comes out is the caller's, no two lists share any, and nothing that is handed in is written into.
func TestQ1FreshMemory(t *testing.T) {
	a := clone(three)
	want, err := ask.List(a, 50)
	if err != nil {
		t.Fatal(err)
	}
	list, err := ask.List(a, 50)
	if err != nil {
		t.Fatal(err)
	}
	for i, w := range list {
		for k := range w[:cap(w)] {
			w[:cap(w)][k] = 77
		}
		if !same(list[i+1:], want[i+1:]) {
			t.Fatalf("word %d shares memory with another one", i)
		}
	}
	for i := range list[:cap(list)] {
		list[:cap(list)][i] = []int{77}
	}
	b := just(3, 2, []int{5, 0, 8})
	for _, f := range []func(api.Auto) ([]int, error){ask.First, ask.Tuple} {
		before, err := f(b)
		if err != nil {
			t.Fatal(err)
		}
		again := slices.Clone(before)
		for i := range before[:cap(before)] {
			before[:cap(before)][i] = 77
		}
		if after, err := f(b); err != nil || !slices.Equal(after, again) {
			t.Errorf("got %v %v, want %v", after, err, again)
		}
	}
	wantFinite(t, a, false)
	wantList(t, a, 50, want)
	if !equal(a, three) || !equal(b, just(3, 2, []int{5, 0, 8})) {
		t.Errorf("written into: %v %v", a, b)
	}
}
