package least_test

import (
	"math"
	"math/rand"
	"slices"
	"testing"

	"filbert/api"
	"filbert/auto"
	"filbert/least"
	"filbert/plain"
)

var bases = []int{api.Fib, 2, 3, 4, 5, api.MaxBase}

// letters: of each base, how many there are of so many tracks.
var letters = map[int][]int{
	api.Fib: {1, 2, 4, 8, 16, 32},
	2:       {1, 2, 4, 8, 16, 32},
	3:       {1, 3, 9, 27},
	4:       {1, 4, 16},
	5:       {1, 5, 25},
	6:       {1, 6, 36},
}

// eachShape calls f with every base and every count of tracks that go together.
func eachShape(f func(base, tracks, many int)) {
	for _, base := range bases {
		for tracks, many := range letters[base] {
			f(base, tracks, many)
		}
	}
}

// still: an automaton of so many states, none of which leads to another.
func still(base, tracks, states int) api.Auto {
	a := api.Auto{Base: base, Tracks: tracks, Ends: make([]bool, states)}
	for state := range states {
		a.Next = append(a.Next, slices.Repeat([]int{state}, letters[base][tracks]))
	}
	return a
}

// wild: an automaton of so many states that lead anywhere; one state in so many is an end.
func wild(source *rand.Rand, base, tracks, states, ends int) api.Auto {
	a := still(base, tracks, states)
	for state := range states {
		a.Ends[state] = source.Intn(ends) == 0
		for x := range a.Next[state] {
			a.Next[state][x] = source.Intn(states)
		}
	}
	return a
}

// round: each state leads to the one behind it, the last one to the first; one is an end.
func round(base, tracks, states, end int) api.Auto {
	a := still(base, tracks, states)
	for state := range states {
		for x := range a.Next[state] {
			a.Next[state][x] = (state + 1) % states
		}
	}
	a.Ends[end] = true
	return a
}

// blown: takes the same words by so many states: each of a's has others like it, and all but the first one are mixed.
func blown(source *rand.Rand, a api.Auto, states int) api.Auto {
	like := make([]int, states)
	copies := make([][]int, len(a.Next))
	places := source.Perm(states - 1)
	for i := 1; i < states; i++ {
		like[places[i-1]+1] = i % len(a.Next)
	}
	for i, state := range like {
		copies[state] = append(copies[state], i)
	}
	b := api.Auto{Base: a.Base, Tracks: a.Tracks}
	for _, state := range like {
		nexts := make([]int, len(a.Next[state]))
		for x, next := range a.Next[state] {
			nexts[x] = copies[next][source.Intn(len(copies[next]))]
		}
		b.Next = append(b.Next, nexts)
		b.Ends = append(b.Ends, a.Ends[state])
	}
	return b
}

func clone(a api.Auto) api.Auto {
	b := a
	b.Ends = slices.Clone(a.Ends)
	b.Next = nil
	for _, nexts := range a.Next {
		b.Next = append(b.Next, slices.Clone(nexts))
	}
	return b
}

func equal(a, b api.Auto) bool {
	return a.Base == b.Base && a.Tracks == b.Tracks && slices.Equal(a.Ends, b.Ends) && slices.EqualFunc(a.Next, b.Next, slices.Equal)
}

// empty: an automaton of which all is 0 or nil, as it comes with an error.
func empty(a api.Auto) bool {
	return a.Base == 0 && a.Tracks == 0 && a.Next == nil && a.Ends == nil
}

// unlike: of each two states, whether some word leads from just one of them to an end, found pair by pair.
func unlike(a api.Auto) [][]bool {
	apart := make([][]bool, len(a.Next))
	for s := range apart {
		apart[s] = make([]bool, len(a.Next))
		for t := range apart {
			apart[s][t] = a.Ends[s] != a.Ends[t]
		}
	}
	for more := true; more; {
		more = false
		for s := range apart {
			for t := range apart {
				for x := 0; x < len(a.Next[s]) && !apart[s][t]; x++ {
					if apart[a.Next[s][x]][a.Next[t][x]] {
						apart[s][t], more = true, true
					}
				}
			}
		}
	}
	return apart
}

// beside: one automaton with the states of a, then those of b.
func beside(a, b api.Auto) api.Auto {
	both := clone(a)
	both.Ends = append(both.Ends, b.Ends...)
	for _, nexts := range b.Next {
		moved := slices.Clone(nexts)
		for x := range moved {
			moved[x] += len(a.Next)
		}
		both.Next = append(both.Next, moved)
	}
	return both
}

// eachWord calls f with every word of at most so many letters, in the order of words, till it answers false.
func eachWord(many, long int, f func(w []int) bool) {
	for n := range long + 1 {
		w := make([]int, n)
		for {
			if !f(w) {
				return
			}
			at := n - 1
			for at >= 0 && w[at] == many-1 {
				w[at] = 0
				at--
			}
			if at < 0 {
				break
			}
			w[at]++
		}
	}
}

func takes(a api.Auto, w []int) bool {
	state := 0
	for _, x := range w {
		state = a.Next[state][x]
	}
	return a.Ends[state]
}

func wantLeast(t *testing.T, a, want api.Auto) {
	t.Helper()
	got, err := least.Least(a)
	if err != nil || !equal(got, want) {
		t.Errorf("Least(%v): got %v %v, want %v", a, got, err, want)
	}
}

func wantSame(t *testing.T, a, b api.Auto, want bool, errno api.Errno) {
	t.Helper()
	got, err := least.Same(a, b)
	if got != want || plain.Told(err) != errno {
		t.Errorf("Same(%v, %v): got %t %v, want %t %v", a, b, got, err, want, errno)
	}
}

func wantDiffer(t *testing.T, a, b api.Auto, want []int, errno api.Errno) {
	t.Helper()
	got, err := least.Differ(a, b)
	if !slices.Equal(got, want) || plain.Told(err) != errno {
		t.Errorf("Differ(%v, %v): got %v %v, want %v %v", a, b, got, err, want, errno)
	}
}

func wantFirst(t *testing.T, a api.Auto, want []int, errno api.Errno) {
	t.Helper()
	got, err := least.First(a)
	if !slices.Equal(got, want) || plain.Told(err) != errno {
		t.Errorf("First(%v): got %v %v, want %v %v", a, got, err, want, errno)
	}
}

// wantApart: two automata differ by this word first, whichever comes first.
func wantApart(t *testing.T, a, b api.Auto, w []int) {
	t.Helper()
	wantSame(t, a, b, false, api.OK)
	wantSame(t, b, a, false, api.OK)
	wantDiffer(t, a, b, w, api.OK)
	wantDiffer(t, b, a, w, api.OK)
}

// wantAlike: two automata take the same words, and have the same least one.
func wantAlike(t *testing.T, a, b api.Auto) {
	t.Helper()
	wantSame(t, a, b, true, api.OK)
	wantSame(t, b, a, true, api.OK)
	wantDiffer(t, a, b, nil, api.ErrNone)
	wantDiffer(t, b, a, nil, api.ErrNone)
	of, err := least.Least(a)
	if err != nil {
		t.Errorf("Least(%v): %v", a, err)
	}
	wantLeast(t, b, of)
}

// wantNeither: both calls that hold automata against each other tell this.
func wantNeither(t *testing.T, a, b api.Auto, errno api.Errno) {
	t.Helper()
	wantSame(t, a, b, false, errno)
	wantDiffer(t, a, b, nil, errno)
	if w, _ := least.Differ(a, b); w != nil {
		t.Errorf("Differ(%v, %v): %v beside an error", a, b, w)
	}
}

// wantWrong: what is wrong with an automaton is told by every call, ahead of what does not go together.
func wantWrong(t *testing.T, a api.Auto, errno api.Errno) {
	t.Helper()
	if got, err := least.Least(a); !empty(got) || plain.Told(err) != errno {
		t.Errorf("Least(%v): got %v %v, want %v", a, got, err, errno)
	}
	wantFirst(t, a, nil, errno)
	for _, other := range []api.Auto{still(2, 1, 1), still(5, 2, 2), still(api.Fib, 0, 1)} {
		wantNeither(t, a, other, errno)
		wantNeither(t, other, a, errno)
	}
	wantNeither(t, a, a, errno)
}

// wantIsLeast: Least of a takes the same words, by states that all are met, in their order, and of which no two are alike.
func wantIsLeast(t *testing.T, a api.Auto) {
	t.Helper()
	was := clone(a)
	got, err := least.Least(a)
	if err != nil || auto.Check(got) != nil || got.Base != a.Base || got.Tracks != a.Tracks {
		t.Fatalf("Least(%v): got %v %v", a, got, err)
	}
	reach, _ := auto.Reach(got)
	for state := range got.Next {
		if len(reach) != len(got.Next) || reach[state] != state {
			t.Fatalf("Least(%v): got %v, whose states are met so: %v", a, got, reach)
		}
	}
	apart := unlike(beside(got, a))
	if apart[0][len(got.Next)] {
		t.Fatalf("Least(%v): got %v, which takes other words", a, got)
	}
	for s := range got.Next {
		for other := range s {
			if !apart[s][other] {
				t.Fatalf("Least(%v): got %v, where %d and %d are alike", a, got, other, s)
			}
		}
	}
	wantLeast(t, got, got)
	if !equal(a, was) {
		t.Fatalf("%v was written into", was)
	}
}

func TestM1Examples(t *testing.T) {
	odd := api.Auto{Base: 2, Tracks: 1, Next: [][]int{{0, 1}, {1, 0}}, Ends: []bool{false, true}}
	four := api.Auto{Base: 2, Tracks: 1, Next: [][]int{{2, 1}, {3, 0}, {0, 3}, {1, 2}}, Ends: []bool{false, true, false, true}}
	wantLeast(t, odd, odd)
	wantLeast(t, four, odd)
	// States that no word leads to are none of the least automaton's, however they end.
	far := api.Auto{Base: 2, Tracks: 1, Next: [][]int{{2, 0}, {0, 2}, {2, 2}}, Ends: []bool{false, true, false}}
	wantLeast(t, far, api.Auto{Base: 2, Tracks: 1, Next: [][]int{{0, 0}}, Ends: []bool{false}})
	// States are numbered as they are met, not as they were.
	mixed := api.Auto{Base: 3, Tracks: 1, Next: [][]int{{0, 3, 2}, {1, 1, 1}, {2, 1, 0}, {1, 0, 3}}, Ends: []bool{false, true, false, false}}
	wantLeast(t, mixed, api.Auto{Base: 3, Tracks: 1, Next: [][]int{{0, 1, 2}, {3, 0, 1}, {2, 3, 0}, {3, 3, 3}}, Ends: []bool{false, false, false, true}})
}

// TestM1AllOrNone: what takes all words, or none, has one state.
func TestM1AllOrNone(t *testing.T) {
	source := rand.New(rand.NewSource(1))
	eachShape(func(base, tracks, many int) {
		for _, end := range []bool{false, true} {
			for _, states := range []int{1, 2, 7, api.MaxStates} {
				a := wild(source, base, tracks, states, 1)
				for state := range states {
					a.Ends[state] = end
				}
				one := api.Auto{Base: base, Tracks: tracks, Next: [][]int{make([]int, many)}, Ends: []bool{end}}
				wantLeast(t, a, one)
			}
		}
	})
}

// TestM1Rounds: a round of which one state is an end can't do with fewer; of two rounds, one half as long can.
func TestM1Rounds(t *testing.T) {
	eachShape(func(base, tracks, _ int) {
		for _, states := range []int{2, 3, 40, api.MaxStates - 1, api.MaxStates} {
			for _, end := range []int{0, 1, states - 1} {
				a := round(base, tracks, states, end)
				wantLeast(t, a, a)
				if states%2 == 0 {
					half := states / 2
					a.Ends[(end+half)%states] = true
					wantLeast(t, a, round(base, tracks, half, end%half))
				}
			}
		}
	})
}

func TestM1WildAutomata(t *testing.T) {
	source := rand.New(rand.NewSource(2))
	eachShape(func(base, tracks, _ int) {
		for range 8 {
			wantIsLeast(t, wild(source, base, tracks, 1+source.Intn(12), 1+source.Intn(4)))
			small := wild(source, base, tracks, 1+source.Intn(12), 2)
			wantIsLeast(t, blown(source, small, 12+source.Intn(20)))
		}
		wantIsLeast(t, wild(source, base, tracks, api.MaxStates, 20))
	})
}

// TestM1OneAndTheSame: whatever takes the same words has the same least automaton.
func TestM1OneAndTheSame(t *testing.T) {
	source := rand.New(rand.NewSource(3))
	eachShape(func(base, tracks, _ int) {
		for range 10 {
			a := wild(source, base, tracks, 1+source.Intn(20), 2)
			wantAlike(t, a, a)
			wantAlike(t, a, blown(source, a, 20+source.Intn(api.MaxStates-19)))
			wantAlike(t, blown(source, a, api.MaxStates), blown(source, a, api.MaxStates))
			of, _ := least.Least(a)
			wantAlike(t, a, of)
		}
	})
}

func TestM2Examples(t *testing.T) {
	odd := api.Auto{Base: 2, Tracks: 1, Next: [][]int{{0, 1}, {1, 0}}, Ends: []bool{false, true}}
	four := api.Auto{Base: 2, Tracks: 1, Next: [][]int{{2, 1}, {3, 0}, {0, 3}, {1, 2}}, Ends: []bool{false, true, false, true}}
	all := api.Auto{Base: 2, Tracks: 1, Next: [][]int{{0, 0}}, Ends: []bool{true}}
	none := api.Auto{Base: 2, Tracks: 1, Next: [][]int{{0, 0}}, Ends: []bool{false}}
	wantAlike(t, odd, four)
	wantApart(t, odd, all, nil)
	wantApart(t, odd, none, []int{1})
	wantApart(t, all, none, nil)
	wantFirst(t, odd, []int{1}, api.OK)
	wantFirst(t, four, []int{1}, api.OK)
	wantFirst(t, all, nil, api.OK)
	wantFirst(t, none, nil, api.ErrNone)
}

// TestM2Order: a shorter word comes first, whatever its letters; of equally long ones the first letter counts ahead of those behind it.
func TestM2Order(t *testing.T) {
	// It takes 2; 0 0 0; 1 ahead of none or more 0s and a 2.
	a := api.Auto{Base: 3, Tracks: 1, Next: [][]int{{2, 1, 4}, {1, 5, 4}, {3, 5, 5}, {4, 5, 5}, {5, 5, 5}, {5, 5, 5}}, Ends: []bool{false, false, false, false, true, false}}
	wantFirst(t, a, []int{2}, api.OK)
	a.Next[0][2] = 5
	wantFirst(t, a, []int{1, 2}, api.OK)
	a.Next[1][2] = 5
	wantFirst(t, a, []int{0, 0, 0}, api.OK)
	a.Next[3][0] = 5
	wantFirst(t, a, nil, api.ErrNone)
	// 0 2 comes ahead of 1 0.
	b := api.Auto{Base: 3, Tracks: 1, Next: [][]int{{2, 1, 4}, {3, 4, 4}, {4, 4, 3}, {4, 4, 4}, {4, 4, 4}}, Ends: []bool{false, false, false, true, false}}
	wantFirst(t, b, []int{0, 2}, api.OK)
	// A state that no word leads to has no word.
	far := api.Auto{Base: 2, Tracks: 1, Next: [][]int{{0, 0}, {0, 1}}, Ends: []bool{false, true}}
	wantFirst(t, far, nil, api.ErrNone)
	wantAlike(t, far, still(2, 1, 1))
}

// TestM2WildAutomata: the first word is the one that is found by trying all of them in their order.
func TestM2WildAutomata(t *testing.T) {
	source := rand.New(rand.NewSource(4))
	eachShape(func(base, tracks, many int) {
		long := map[bool]int{true: 9, false: 3}[many <= 3]
		for range 40 {
			a := wild(source, base, tracks, 1+source.Intn(5), 5)
			b := blown(source, a, 10)
			b.Ends[1+source.Intn(9)] = source.Intn(2) == 0
			eachWord(many, long, func(w []int) bool {
				if takes(a, w) {
					wantFirst(t, a, w, api.OK)
				}
				return !takes(a, w)
			})
			eachWord(many, long, func(w []int) bool {
				if takes(a, w) != takes(b, w) {
					wantApart(t, a, b, w)
				}
				return takes(a, w) == takes(b, w)
			})
			if !unlike(beside(a, b))[0][len(a.Next)] {
				wantAlike(t, a, b)
			}
		}
	})
}

// TestM2LongWords: words as long as they ever have to be.
func TestM2LongWords(t *testing.T) {
	eachShape(func(base, tracks, _ int) {
		last := api.MaxStates - 1
		a := round(base, tracks, api.MaxStates, last)
		wantFirst(t, a, make([]int, last), api.OK)
		// One round takes what has 78, 157, .. letters, the other one what has 78, 158, ..
		b, c := round(base, tracks, last, last-1), round(base, tracks, api.MaxStates, last-1)
		wantApart(t, b, c, make([]int, 2*last-1))
		wantAlike(t, a, clone(a))
		// Without ends all pairs of their states are met, and none tells them apart.
		b.Ends, c.Ends = make([]bool, last), make([]bool, api.MaxStates)
		wantAlike(t, b, c)
	})
}

// TestM2OtherShape: Base and Tracks both have to be the same, even where letters are as many.
func TestM2OtherShape(t *testing.T) {
	eachShape(func(base, tracks, _ int) {
		eachShape(func(base2, tracks2, _ int) {
			a, b := still(base, tracks, 2), still(base2, tracks2, 2)
			if base == base2 && tracks == tracks2 {
				wantAlike(t, a, b)
				return
			}
			wantNeither(t, a, b, api.ErrShape)
			b.Ends[0] = true
			wantNeither(t, a, b, api.ErrShape)
		})
	})
}

func TestM1M2WrongAutomata(t *testing.T) {
	for _, base := range []int{math.MinInt, -1, 0, api.MaxBase + 1, math.MaxInt} {
		wantWrong(t, api.Auto{Base: base, Tracks: 1, Next: [][]int{{0, 0}}, Ends: []bool{true}}, api.ErrRange)
	}
	for _, base := range bases {
		for _, tracks := range []int{math.MinInt, -1, api.MaxTracks + 1, math.MaxInt} {
			wantWrong(t, api.Auto{Base: base, Tracks: tracks, Next: [][]int{{0, 0}}, Ends: []bool{true}}, api.ErrRange)
		}
		for tracks := len(letters[base]); tracks <= api.MaxTracks; tracks++ {
			wantWrong(t, api.Auto{Base: base, Tracks: tracks}, api.ErrFull)
		}
	}
	wantWrong(t, api.Auto{}, api.ErrRange)
	eachShape(func(base, tracks, many int) {
		wantWrong(t, api.Auto{Base: base, Tracks: tracks}, api.ErrNone)
		wantWrong(t, still(base, tracks, api.MaxStates+1), api.ErrFull)
		a := still(base, tracks, 3)
		a.Ends = make([]bool, 2)
		wantWrong(t, a, api.ErrShape)
		a = still(base, tracks, 3)
		a.Next[2] = make([]int, many+1)
		wantWrong(t, a, api.ErrShape)
		for _, next := range []int{math.MinInt, -1, 3, math.MaxInt} {
			a = still(base, tracks, 3)
			a.Next[2][many-1] = next
			wantWrong(t, a, api.ErrRange)
		}
	})
}

// TestM2ErrorOrder: what is wrong with a comes ahead of what is wrong with b, and both ahead of ErrShape.
func TestM2ErrorOrder(t *testing.T) {
	none, ends, next := still(2, 1, 0), still(3, 1, 2), still(2, 2, 1)
	ends.Ends = nil
	next.Next[0][1] = 1
	for _, pair := range []struct {
		a, b  api.Auto
		errno api.Errno
	}{
		{none, ends, api.ErrNone}, {ends, none, api.ErrShape}, {next, none, api.ErrRange},
		{none, next, api.ErrNone}, {ends, next, api.ErrShape}, {next, ends, api.ErrRange},
	} {
		wantNeither(t, pair.a, pair.b, pair.errno)
	}
}

// TestM1M2BehindTheLength: what lies behind a list's length is neither read nor written.
func TestM1M2BehindTheLength(t *testing.T) {
	row := []int{1, 0, 99}
	next := [][]int{row[:2], {1, 1}, {-1}}
	ends := []bool{false, true, true}
	a := api.Auto{Base: 2, Tracks: 1, Next: next[:2], Ends: ends[:2]}
	wantLeast(t, a, a)
	wantAlike(t, a, clone(a))
	wantFirst(t, a, []int{0}, api.OK)
	if row[2] != 99 || len(next[2]) != 1 || next[2][0] != -1 || !ends[2] {
		t.Errorf("written into: %v %v %v", row, next, ends)
	}
}

// scribble writes into all memory of an automaton, list by list, also behind the lengths.
func scribble(a api.Auto) {
	for _, nexts := range a.Next {
		for i := range nexts[:cap(nexts)] {
			nexts[:cap(nexts)][i] = 77
		}
	}
	for i := range a.Next[:cap(a.Next)] {
		a.Next[:cap(a.Next)][i] = nil
	}
	for i := range a.Ends[:cap(a.Ends)] {
		a.Ends[:cap(a.Ends)][i] = true
	}
}

// TestM1M2FreshMemory: what comes out is the caller's, and no two lists share memory.
func TestM1M2FreshMemory(t *testing.T) {
	a := round(3, 1, 5, 3)
	was := clone(a)
	got, _ := least.Least(a)
	for state, nexts := range got.Next {
		for i := range nexts[:cap(nexts)] {
			nexts[:cap(nexts)][i] = 77
		}
		for behind := state + 1; behind < len(got.Next); behind++ {
			if !slices.Equal(got.Next[behind], was.Next[behind]) {
				t.Fatalf("states %d and %d share memory", state, behind)
			}
		}
	}
	scribble(got)
	b := still(3, 1, 1)
	for _, find := range []func() ([]int, error){
		func() ([]int, error) { return least.First(a) },
		func() ([]int, error) { return least.Differ(a, b) },
	} {
		for range 2 {
			w, err := find()
			if err != nil || !slices.Equal(w, []int{0, 0, 0}) {
				t.Errorf("got %v %v", w, err)
			}
			for i := range w[:cap(w)] {
				w[:cap(w)][i] = 77
			}
		}
	}
	if !equal(a, was) || !equal(b, still(3, 1, 1)) {
		t.Errorf("%v shares memory with what is answered", was)
	}
	wantLeast(t, a, was)
}

// wantWide: what LeastWide tells.
func wantWide(t *testing.T, a, want api.Auto, errno api.Errno) {
	t.Helper()
	was := clone(a)
	got, err := least.LeastWide(a)
	if !equal(got, want) || plain.Told(err) != errno || errno != api.OK && !empty(got) {
		t.Errorf("LeastWide of %d states: got %v %v, want %v %v", len(a.Next), got, err, want, errno)
	}
	if !equal(a, was) {
		t.Errorf("%v was written into", was)
	}
}

// TestM1WideAutomata: an automaton of more than MaxStates has a least one like any other, unless that has more, too.
func TestM1WideAutomata(t *testing.T) {
	source := rand.New(rand.NewSource(5))
	eachShape(func(base, tracks, _ int) {
		for _, states := range []int{1, 2, 7, api.MaxStates} {
			a := wild(source, base, tracks, states, 3)
			of, _ := least.Least(a)
			wantWide(t, a, of, api.OK)
			wantWide(t, blown(source, a, api.MaxStates+1), of, api.OK)
			wantWide(t, blown(source, a, 1000), of, api.OK)
			most := round(base, tracks, states, states-1)
			wantWide(t, blown(source, most, 700), most, api.OK)
		}
		for _, states := range []int{api.MaxStates + 1, 2 * api.MaxStates, 5000} {
			wantWide(t, round(base, tracks, states, 0), api.Auto{}, api.ErrFull)
			wantWide(t, still(base, tracks, states), still(base, tracks, 1), api.OK)
		}
	})
}

func TestM1WrongWideAutomata(t *testing.T) {
	wantWide(t, api.Auto{}, api.Auto{}, api.ErrRange)
	wantWide(t, still(2, 1, 0), api.Auto{}, api.ErrNone)
	for _, states := range []int{3, 300} {
		a := round(2, 1, states, 0)
		a.Next[2][1] = states
		wantWide(t, a, api.Auto{}, api.ErrRange)
		a.Ends = a.Ends[1:]
		wantWide(t, a, api.Auto{}, api.ErrShape)
	}
}

// TestM2Check: the errors of Same, without looking for a word.
func TestM2Check(t *testing.T) {
	none, full := still(2, 1, 0), still(3, 1, api.MaxStates+1)
	for _, pair := range []struct {
		a, b  api.Auto
		errno api.Errno
	}{
		{still(2, 1, 1), round(2, 1, 3, 0), api.OK}, {still(2, 1, 1), still(api.Fib, 1, 1), api.ErrShape}, {still(2, 1, 1), still(2, 2, 1), api.ErrShape},
		{none, full, api.ErrNone}, {full, none, api.ErrFull}, {still(3, 1, 1), none, api.ErrNone},
	} {
		if err := least.Check(pair.a, pair.b); plain.Told(err) != pair.errno {
			t.Errorf("Check(%v, %v): got %v, want %v", pair.a, pair.b, err, pair.errno)
		}
	}
}
