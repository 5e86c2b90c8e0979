package auto_test

import (
	"math"
	"math/rand"
	"slices"
	"testing"

	"filbert/api"
	"filbert/auto"
	"filbert/plain"
)

var bases = []int{api.Fib, 2, 3, 4, 5, api.MaxBase}

var noBases = []int{math.MinInt, -1, 0, api.MaxBase + 1, math.MaxInt}

var noTracks = []int{math.MinInt, -1, api.MaxTracks + 1, math.MaxInt}

// letters: of each base, how many there are of so many tracks.
var letters = map[int][]int{
	api.Fib: {1, 2, 4, 8, 16, 32},
	2:       {1, 2, 4, 8, 16, 32},
	3:       {1, 3, 9, 27},
	4:       {1, 4, 16},
	5:       {1, 5, 25},
	6:       {1, 6, 36},
}

// eachShape calls f with every base and every count of tracks that go together.
func eachShape(f func(base, tracks, many int)) {
	for _, base := range bases {
		for tracks, many := range letters[base] {
			f(base, tracks, many)
		}
	}
}

// still: an automaton of so many states, none of which leads to another.
func still(base, tracks, states int) api.Auto {
	a := api.Auto{Base: base, Tracks: tracks, Ends: make([]bool, states)}
	for state := range states {
		a.Next = append(a.Next, slices.Repeat([]int{state}, letters[base][tracks]))
	}
	return a
}

// wild: an automaton of so many states that lead anywhere.
func wild(source *rand.Rand, base, tracks, states int) api.Auto {
	a := still(base, tracks, states)
	for state := range states {
		a.Ends[state] = source.Intn(2) == 0
		for x := range a.Next[state] {
			a.Next[state][x] = source.Intn(states)
		}
	}
	return a
}

// round: each state leads to the one behind it, the last one to the first.
func round(base, tracks, states int) api.Auto {
	a := still(base, tracks, states)
	for state := range states {
		for x := range a.Next[state] {
			a.Next[state][x] = (state + 1) % states
		}
	}
	return a
}

func clone(a api.Auto) api.Auto {
	b := a
	b.Ends = slices.Clone(a.Ends)
	b.Next = nil
	for _, nexts := range a.Next {
		b.Next = append(b.Next, slices.Clone(nexts))
	}
	return b
}

func same(a, b api.Auto) bool {
	return a.Base == b.Base && a.Tracks == b.Tracks && slices.Equal(a.Ends, b.Ends) && slices.EqualFunc(a.Next, b.Next, slices.Equal)
}

func wantCheck(t *testing.T, a api.Auto, errno api.Errno) {
	t.Helper()
	if err := auto.Check(a); plain.Told(err) != errno {
		t.Errorf("Check(%v): got %v, want %v", a, err, errno)
	}
}

func wantRun(t *testing.T, a api.Auto, w []int, want int, errno api.Errno) {
	t.Helper()
	got, err := auto.Run(a, w)
	if got != want || plain.Told(err) != errno {
		t.Errorf("Run(%v, %v): got %d %v, want %d %v", a, w, got, err, want, errno)
	}
}

func wantTakes(t *testing.T, a api.Auto, w []int, want bool, errno api.Errno) {
	t.Helper()
	got, err := auto.Takes(a, w)
	if got != want || plain.Told(err) != errno {
		t.Errorf("Takes(%v, %v): got %t %v, want %t %v", a, w, got, err, want, errno)
	}
}

func wantReach(t *testing.T, a api.Auto, want []int, errno api.Errno) {
	t.Helper()
	got, err := auto.Reach(a)
	if !slices.Equal(got, want) || plain.Told(err) != errno {
		t.Errorf("Reach(%v): got %v %v, want %v %v", a, got, err, want, errno)
	}
}

// wantWrong: what is wrong with an automaton is told by every call, ahead of what is wrong with a word.
func wantWrong(t *testing.T, a api.Auto, errno api.Errno) {
	t.Helper()
	wantCheck(t, a, errno)
	wantReach(t, a, nil, errno)
	for _, w := range [][]int{nil, {0}, {-1}, make([]int, api.MaxLong+1)} {
		wantRun(t, a, w, 0, errno)
		wantTakes(t, a, w, false, errno)
	}
}

// wantNoRun: what is wrong with a word is told by both calls that run it.
func wantNoRun(t *testing.T, a api.Auto, w []int, errno api.Errno) {
	t.Helper()
	wantRun(t, a, w, 0, errno)
	wantTakes(t, a, w, false, errno)
}

func TestA1Examples(t *testing.T) {
	odd := api.Auto{Base: 2, Tracks: 1, Next: [][]int{{0, 1}, {1, 0}}, Ends: []bool{false, true}}
	wantCheck(t, odd, api.OK)
	wantRun(t, odd, nil, 0, api.OK)
	wantRun(t, odd, []int{1, 0, 1, 1}, 1, api.OK)
	wantRun(t, odd, []int{1, 0, 1}, 0, api.OK)
	wantTakes(t, odd, nil, false, api.OK)
	wantTakes(t, odd, []int{1, 0, 1, 1}, true, api.OK)
	wantTakes(t, odd, []int{0, 1, 1}, false, api.OK)
	wantReach(t, odd, []int{0, 1}, api.OK)
	three := api.Auto{Base: 3, Tracks: 1, Next: [][]int{{0, 3, 2}, {1, 1, 1}, {2, 4, 0}, {5, 0, 3}, {4, 4, 4}, {5, 1, 5}}, Ends: make([]bool, 6)}
	wantReach(t, three, []int{0, 3, 2, 5, 4, 1}, api.OK)
}

// TestA1Sizes: all counts of states and of letters that may be.
func TestA1Sizes(t *testing.T) {
	eachShape(func(base, tracks, many int) {
		for _, states := range []int{1, 2, 3, api.MaxStates - 1, api.MaxStates} {
			wantCheck(t, still(base, tracks, states), api.OK)
			wantReach(t, still(base, tracks, states), []int{0}, api.OK)
			a := round(base, tracks, states)
			var all []int
			for state := range states {
				all = append(all, state)
			}
			wantCheck(t, a, api.OK)
			wantReach(t, a, all, api.OK)
			for _, long := range []int{0, 1, states, api.MaxLong - 1, api.MaxLong} {
				end := long % states
				wantRun(t, a, slices.Repeat([]int{many - 1}, long), end, api.OK)
				a.Ends[end] = true
				wantTakes(t, a, slices.Repeat([]int{many - 1}, long), true, api.OK)
				a.Ends[end] = false
				wantTakes(t, a, slices.Repeat([]int{many - 1}, long), false, api.OK)
			}
		}
	})
}

// leads: the states in the order in which words of no letter, of one, of two .. lead to them.
func leads(a api.Auto) []int {
	order := []int{0}
	for level := []int{0}; len(level) > 0; {
		var below []int
		for _, state := range level {
			for _, next := range a.Next[state] {
				if !slices.Contains(order, next) {
					order = append(order, next)
					below = append(below, next)
				}
			}
		}
		level = below
	}
	return order
}

func TestA1WildAutomata(t *testing.T) {
	source := rand.New(rand.NewSource(5))
	eachShape(func(base, tracks, many int) {
		for range 60 {
			a := wild(source, base, tracks, 1+source.Intn(api.MaxStates))
			was := clone(a)
			wantCheck(t, a, api.OK)
			wantReach(t, a, leads(a), api.OK)
			w := make([]int, source.Intn(api.MaxLong+1))
			end := 0
			for i := range w {
				w[i] = source.Intn(many)
				end = a.Next[end][w[i]]
			}
			word := slices.Clone(w)
			wantRun(t, a, w, end, api.OK)
			wantTakes(t, a, w, a.Ends[end], api.OK)
			if !same(a, was) || !slices.Equal(w, word) {
				t.Fatalf("%v or %v was written into", was, word)
			}
		}
	})
}

func TestA1WrongLetters(t *testing.T) {
	eachShape(func(base, tracks, many int) {
		a := round(base, tracks, 3)
		for _, x := range []int{math.MinInt, -1, many, many + 1, math.MaxInt} {
			wantNoRun(t, a, []int{x}, api.ErrRange)
			wantNoRun(t, a, []int{x, 0}, api.ErrRange)
			wantNoRun(t, a, []int{0, 0, x}, api.ErrRange)
			wantNoRun(t, a, append(make([]int, api.MaxLong-1), x), api.ErrRange)
			wantNoRun(t, a, append(make([]int, api.MaxLong), x), api.ErrFull)
			wantNoRun(t, a, append([]int{x}, make([]int, api.MaxLong)...), api.ErrFull)
		}
		wantNoRun(t, a, make([]int, api.MaxLong+1), api.ErrFull)
		wantNoRun(t, a, make([]int, 100000), api.ErrFull)
	})
}

func TestA1NoLetters(t *testing.T) {
	for _, base := range noBases {
		for tracks := range api.MaxTracks + 1 {
			wantWrong(t, api.Auto{Base: base, Tracks: tracks}, api.ErrRange)
			wantWrong(t, api.Auto{Base: base, Tracks: tracks, Next: [][]int{{0, 0}}, Ends: []bool{true}}, api.ErrRange)
		}
	}
	for _, base := range bases {
		for _, tracks := range noTracks {
			wantWrong(t, api.Auto{Base: base, Tracks: tracks}, api.ErrRange)
			wantWrong(t, api.Auto{Base: base, Tracks: tracks, Next: [][]int{{0, 0}}, Ends: []bool{true}}, api.ErrRange)
		}
		for tracks := len(letters[base]); tracks <= api.MaxTracks; tracks++ {
			wantWrong(t, api.Auto{Base: base, Tracks: tracks}, api.ErrFull)
			wantWrong(t, api.Auto{Base: base, Tracks: tracks, Next: [][]int{{9}}}, api.ErrFull)
		}
	}
	wantWrong(t, api.Auto{}, api.ErrRange)
}

func TestA1NoStates(t *testing.T) {
	eachShape(func(base, tracks, _ int) {
		wantWrong(t, api.Auto{Base: base, Tracks: tracks}, api.ErrNone)
		wantWrong(t, api.Auto{Base: base, Tracks: tracks, Next: [][]int{}, Ends: []bool{}}, api.ErrNone)
		wantWrong(t, api.Auto{Base: base, Tracks: tracks, Ends: []bool{true}}, api.ErrNone)
	})
}

func TestA1ManyStates(t *testing.T) {
	eachShape(func(base, tracks, _ int) {
		a := still(base, tracks, api.MaxStates+1)
		wantWrong(t, a, api.ErrFull)
		a.Next[0] = []int{-1, -1}
		wantWrong(t, a, api.ErrFull)
		a.Ends = nil
		wantWrong(t, a, api.ErrFull)
		wantWrong(t, still(base, tracks, 1000), api.ErrFull)
	})
}

func TestA1WrongEnds(t *testing.T) {
	eachShape(func(base, tracks, _ int) {
		for _, ends := range []int{0, 1, 2, 4, 100} {
			a := still(base, tracks, 3)
			a.Ends = make([]bool, ends)
			wantWrong(t, a, api.ErrShape)
			a.Next[0][0] = -1
			wantWrong(t, a, api.ErrShape)
		}
	})
}

func TestA1WrongNexts(t *testing.T) {
	eachShape(func(base, tracks, many int) {
		for state := range 3 {
			for _, n := range []int{0, many - 1, many + 1, 2 * many} {
				a := still(base, tracks, 3)
				a.Next[state] = make([]int, n)
				wantWrong(t, a, api.ErrShape)
				if n > 0 {
					a.Next[state][0] = -1
					wantWrong(t, a, api.ErrShape)
				}
			}
			for x := range many {
				for _, next := range []int{math.MinInt, -1, 3, api.MaxStates, math.MaxInt} {
					a := still(base, tracks, 3)
					a.Next[state][x] = next
					wantWrong(t, a, api.ErrRange)
				}
			}
		}
	})
}

// TestA1StateByState: all that is wrong with one state comes ahead of what is wrong with the next.
func TestA1StateByState(t *testing.T) {
	eachShape(func(base, tracks, many int) {
		a := still(base, tracks, 4)
		a.Next[1][many-1] = 4
		a.Next[2] = nil
		wantWrong(t, a, api.ErrRange)
		a.Next[0] = make([]int, many+1)
		wantWrong(t, a, api.ErrShape)
	})
}

// TestA1WholeAutomaton: a state that no word leads to is looked at, too.
func TestA1WholeAutomaton(t *testing.T) {
	a := api.Auto{Base: 2, Tracks: 1, Next: [][]int{{0, 0}, {0, 2}}, Ends: []bool{true, true}}
	wantWrong(t, a, api.ErrRange)
	a.Next[1] = []int{0}
	wantWrong(t, a, api.ErrShape)
}

// TestA1BehindTheLength: what lies behind a list's length is neither read nor written.
func TestA1BehindTheLength(t *testing.T) {
	row := []int{1, 0, 99}
	next := [][]int{row[:2], {1, 1}, {-1}}
	ends := []bool{false, true, true}
	w := []int{0, 1, 99}
	a := api.Auto{Base: 2, Tracks: 1, Next: next[:2], Ends: ends[:2]}
	wantCheck(t, a, api.OK)
	wantRun(t, a, w[:2], 1, api.OK)
	wantTakes(t, a, w[:2], true, api.OK)
	wantReach(t, a, []int{0, 1}, api.OK)
	if row[2] != 99 || len(next[2]) != 1 || w[2] != 99 || !ends[2] {
		t.Errorf("written into: %v %v %v %v", row, next, ends, w)
	}
}

// TestA1FreshMemory: what Reach answers is the caller's to write into.
func TestA1FreshMemory(t *testing.T) {
	a := round(3, 1, 5)
	was := clone(a)
	for range 2 {
		wantReach(t, a, []int{0, 1, 2, 3, 4}, api.OK)
		got, _ := auto.Reach(a)
		for i := range got[:cap(got)] {
			got[:cap(got)][i] = 77
		}
		if !same(a, was) {
			t.Fatalf("%v shares memory with what Reach answers", was)
		}
	}
}

// TestA1WideAutomata: only the count of states may be greater there; all else is told as ever.
func TestA1WideAutomata(t *testing.T) {
	want := func(a api.Auto, want []int, errno api.Errno) {
		t.Helper()
		got, err := auto.ReachWide(a)
		if !slices.Equal(got, want) || plain.Told(err) != errno {
			t.Errorf("ReachWide of %d states: got %v %v, want %v %v", len(a.Next), got, err, want, errno)
		}
	}
	source := rand.New(rand.NewSource(6))
	eachShape(func(base, tracks, many int) {
		for _, states := range []int{1, api.MaxStates, api.MaxStates + 1, 300} {
			a := wild(source, base, tracks, states)
			want(a, leads(a), api.OK)
			a.Next[states-1][many-1] = states
			want(a, nil, api.ErrRange)
			a.Next[states-1] = make([]int, many+1)
			want(a, nil, api.ErrShape)
			a = still(base, tracks, states)
			a.Ends = a.Ends[1:]
			want(a, nil, api.ErrShape)
		}
		want(still(base, tracks, 0), nil, api.ErrNone)
	})
	want(api.Auto{}, nil, api.ErrRange)
	want(api.Auto{Base: api.MaxBase, Tracks: api.MaxTracks}, nil, api.ErrFull)
}
