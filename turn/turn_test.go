package turn_test

import (
	"math"
	"math/rand"
	"slices"
	"testing"

	"filbert/api"
	"filbert/auto"
	"filbert/least"
	"filbert/pair"
	"filbert/plain"
	"filbert/track"
	"filbert/turn"
)

var bases = []int{api.Fib, 2, 3, 4, 5, api.MaxBase}

// letters: of each base, how many there are of so many tracks.
var letters = map[int][]int{
	api.Fib: {1, 2, 4, 8, 16, 32},
	2:       {1, 2, 4, 8, 16, 32},
	3:       {1, 3, 9, 27},
	4:       {1, 4, 16},
	5:       {1, 5, 25},
	6:       {1, 6, 36},
}

// eachShape calls f with every base and every count of tracks that go together.
func eachShape(f func(base, tracks, many int)) {
	for _, base := range bases {
		for tracks, many := range letters[base] {
			f(base, tracks, many)
		}
	}
}

// still: an automaton of so many states, none of which leads to another.
func still(base, tracks, states int) api.Auto {
	a := api.Auto{Base: base, Tracks: tracks, Ends: make([]bool, states)}
	for state := range states {
		a.Next = append(a.Next, slices.Repeat([]int{state}, letters[base][tracks]))
	}
	return a
}

// wild: an automaton of so many states that lead anywhere.
func wild(source *rand.Rand, base, tracks, states int) api.Auto {
	a := still(base, tracks, states)
	for state := range states {
		a.Ends[state] = source.Intn(2) == 0
		for x := range a.Next[state] {
			a.Next[state][x] = source.Intn(states)
		}
	}
	return a
}

func clone(a api.Auto) api.Auto {
	b := a
	b.Ends = slices.Clone(a.Ends)
	b.Next = nil
	for _, nexts := range a.Next {
		b.Next = append(b.Next, slices.Clone(nexts))
	}
	return b
}

func equal(a, b api.Auto) bool {
	return a.Base == b.Base && a.Tracks == b.Tracks && slices.Equal(a.Ends, b.Ends) && slices.EqualFunc(a.Next, b.Next, slices.Equal)
}

// empty: an automaton of which all is 0 or nil, as it comes with an error.
func empty(a api.Auto) bool {
	return a.Base == 0 && a.Tracks == 0 && a.Next == nil && a.Ends == nil
}

func leastOf(t *testing.T, a api.Auto) api.Auto {
	t.Helper()
	got, err := least.Least(a)
	if err != nil {
		t.Fatalf("Least(%v): %v", a, err)
	}
	return got
}

func turned(t *testing.T, a api.Auto) api.Auto {
	t.Helper()
	got, err := turn.Turn(a)
	if err != nil {
		t.Fatalf("Turn(%v): %v", a, err)
	}
	return got
}

func wantTurn(t *testing.T, a, want api.Auto) {
	t.Helper()
	if got := turned(t, a); !equal(got, want) {
		t.Errorf("Turn(%v): got %v, want %v", a, got, want)
	}
}

func wantSets(t *testing.T, a api.Auto, want int) {
	t.Helper()
	if got, err := turn.Sets(a); got != want || err != nil {
		t.Errorf("Sets(%v): got %d %v, want %d", a, got, err, want)
	}
}

func wantNoTurn(t *testing.T, a api.Auto, errno api.Errno) {
	t.Helper()
	if got, err := turn.Turn(a); !empty(got) || plain.Told(err) != errno {
		t.Errorf("Turn(%v): got %v %v, want %v", a, got, err, errno)
	}
}

func wantNoSets(t *testing.T, a api.Auto, errno api.Errno) {
	t.Helper()
	if got, err := turn.Sets(a); got != 0 || plain.Told(err) != errno {
		t.Errorf("Sets(%v): got %d %v, want %v", a, got, err, errno)
	}
}

func wantWrong(t *testing.T, a api.Auto, errno api.Errno) {
	t.Helper()
	wantNoTurn(t, a, errno)
	wantNoSets(t, a, errno)
}

// fates: of each state, does a word lead from there to an end?
type fates [api.MaxStates]bool

// fatesOf the empty word.
func fatesOf(a api.Auto) fates {
	var f fates
	copy(f[:], a.Ends)
	return f
}

// ahead: the fates of the word with a letter ahead.
func ahead(a api.Auto, f fates, x int) fates {
	var g fates
	for state := range a.Next {
		g[state] = f[a.Next[state][x]]
	}
	return g
}

// comeUp: how many fates there are of all words, up to so many.
func comeUp(a api.Auto, most int) int {
	start := fatesOf(a)
	met := map[fates]bool{start: true}
	for waiting := []fates{start}; len(waiting) > 0 && len(met) < most; waiting = waiting[1:] {
		for x := range a.Next[0] {
			to := ahead(a, waiting[0], x)
			if !met[to] {
				met[to] = true
				waiting = append(waiting, to)
			}
		}
	}
	return len(met)
}

// wantFromBehind: got is the least automaton that takes a word, if a takes it from behind, found by running got along all words, as they become longer at their end, and a along them, as they become longer at their beginning.
func wantFromBehind(t *testing.T, a, got api.Auto) {
	t.Helper()
	if err := auto.Check(got); err != nil || got.Base != a.Base || got.Tracks != a.Tracks {
		t.Fatalf("Turn(%v): got %v, which is wrong: %v", a, got, err)
	}
	if !equal(got, leastOf(t, got)) {
		t.Fatalf("Turn(%v): got %v, which is not the least", a, got)
	}
	type spot struct {
		of fates
		at int
	}
	start := spot{fatesOf(a), 0}
	met := map[spot]bool{start: true}
	for waiting := []spot{start}; len(waiting) > 0; waiting = waiting[1:] {
		now := waiting[0]
		if now.of[0] != got.Ends[now.at] {
			t.Fatalf("Turn(%v): got %v, which takes other words", a, got)
		}
		for x := range a.Next[0] {
			to := spot{ahead(a, now.of, x), got.Next[now.at][x]}
			if !met[to] {
				met[to] = true
				waiting = append(waiting, to)
			}
		}
	}
}

// wantWhole: all that is promised of an automaton of which not too many sets come up; it tells how many there are.
func wantWhole(t *testing.T, a api.Auto) int {
	t.Helper()
	was := clone(a)
	few := leastOf(t, a)
	got := turned(t, a)
	wantFromBehind(t, a, got)
	wantTurn(t, few, got)
	wantTurn(t, got, few)
	sets := comeUp(few, math.MaxInt)
	wantSets(t, a, sets)
	wantSets(t, few, sets)
	wantSets(t, got, len(few.Next))
	if !equal(a, was) {
		t.Fatalf("%v was written into", was)
	}
	return sets
}

// eachWord calls f with all words of so many kinds of letters, up to so long.
func eachWord(many, long int, f func(w []int)) {
	var from func(w []int)
	from = func(w []int) {
		f(w)
		if len(w) < long {
			for x := range many {
				from(append(slices.Clone(w), x))
			}
		}
	}
	from(nil)
}

func takes(t *testing.T, a api.Auto, w []int) bool {
	t.Helper()
	ok, err := auto.Takes(a, w)
	if err != nil {
		t.Fatalf("Takes(%v, %v): %v", a, w, err)
	}
	return ok
}

// all words are taken, or none is.
func all(base, tracks int, ends bool) api.Auto {
	a := still(base, tracks, 1)
	a.Ends[0] = ends
	return a
}

// just takes one word alone; its last state is met by all others.
func just(base, tracks int, w []int) api.Auto {
	a := still(base, tracks, len(w)+2)
	for state, x := range w {
		a.Next[state] = slices.Repeat([]int{len(w) + 1}, letters[base][tracks])
		a.Next[state][x] = state + 1
	}
	a.Next[len(w)] = slices.Repeat([]int{len(w) + 1}, letters[base][tracks])
	a.Ends[len(w)] = true
	return a
}

// odd: an odd count of 1s; last1: the last letter is 1; first1: the first one is.
var (
	odd    = api.Auto{Base: 2, Tracks: 1, Next: [][]int{{0, 1}, {1, 0}}, Ends: []bool{false, true}}
	last1  = api.Auto{Base: 2, Tracks: 1, Next: [][]int{{0, 1}, {0, 1}}, Ends: []bool{false, true}}
	first1 = api.Auto{Base: 2, Tracks: 1, Next: [][]int{{1, 2}, {1, 1}, {2, 2}}, Ends: []bool{false, false, true}}
)

func TestR1Examples(t *testing.T) {
	wantTurn(t, last1, first1)
	wantTurn(t, first1, last1)
	wantSets(t, last1, 3)
	wantSets(t, first1, 2)
	wantTurn(t, odd, odd)
	wantSets(t, odd, 2)
	// The last letter but one is 1.
	a := api.Auto{Base: 2, Tracks: 1, Next: [][]int{{0, 1}, {2, 3}, {0, 1}, {2, 3}}, Ends: []bool{false, false, true, true}}
	wantTurn(t, a, api.Auto{Base: 2, Tracks: 1, Next: [][]int{{1, 1}, {2, 3}, {2, 2}, {3, 3}}, Ends: []bool{false, false, false, true}})
	wantSets(t, a, 4)
	// 0 1 alone becomes 1 0 alone.
	wantTurn(t, just(2, 1, []int{0, 1}), api.Auto{Base: 2, Tracks: 1, Next: [][]int{{1, 2}, {1, 1}, {3, 1}, {1, 1}}, Ends: []bool{false, false, false, true}})
}

// TestR1AllOrNone: the set of all states, and the one without states, come up alone.
func TestR1AllOrNone(t *testing.T) {
	eachShape(func(base, tracks, _ int) {
		for _, ends := range []bool{false, true} {
			wantTurn(t, all(base, tracks, ends), all(base, tracks, ends))
			wantSets(t, all(base, tracks, ends), 1)
			a := wild(rand.New(rand.NewSource(1)), base, tracks, api.MaxStates)
			a.Ends = slices.Repeat([]bool{ends}, api.MaxStates)
			wantTurn(t, a, all(base, tracks, ends))
			wantSets(t, a, 1)
		}
	})
}

// TestR1AllWords: a short word is taken just if it is taken from behind.
func TestR1AllWords(t *testing.T) {
	source := rand.New(rand.NewSource(2))
	eachShape(func(base, tracks, many int) {
		for range 8 {
			a := wild(source, base, tracks, 1+source.Intn(5))
			got := turned(t, a)
			long := 7
			if many > 2 {
				long = 4
			}
			if many > 9 {
				long = 2
			}
			eachWord(many, long, func(w []int) {
				back := slices.Clone(w)
				slices.Reverse(back)
				if want := takes(t, a, back); takes(t, got, w) != want {
					t.Fatalf("Turn(%v): %v: got %v, want %v", a, w, !want, want)
				}
			})
		}
	})
}

// TestR1WildAutomata: every shape.
func TestR1WildAutomata(t *testing.T) {
	source := rand.New(rand.NewSource(3))
	most := 0
	eachShape(func(base, tracks, _ int) {
		for _, states := range []int{1, 2, 3, 4, 5, 6} {
			most = max(most, wantWhole(t, wild(source, base, tracks, states)))
		}
	})
	if most != 64 {
		t.Errorf("%d sets came up at most", most)
	}
}

// TestR1OneWord: of any length that can be, and any letters.
func TestR1OneWord(t *testing.T) {
	source := rand.New(rand.NewSource(4))
	eachShape(func(base, tracks, many int) {
		for _, long := range []int{0, 1, 2, 7, 61, 62, 63, 64, api.MaxStates - 2} {
			w := make([]int, long)
			for i := range w {
				w[i] = source.Intn(many)
			}
			a := just(base, tracks, w)
			slices.Reverse(w)
			wantTurn(t, a, leastOf(t, just(base, tracks, w)))
			wantWhole(t, a)
		}
	})
}

// TestR1Rings: of any count of states, letters lead so many of them further round.
func TestR1Rings(t *testing.T) {
	source := rand.New(rand.NewSource(5))
	for _, states := range []int{1, 2, 3, 31, 32, 33, 63, 64, 65, 66, api.MaxStates - 1, api.MaxStates} {
		for _, base := range bases {
			a := still(base, 1, states)
			for state := range states {
				for x := range a.Next[state] {
					a.Next[state][x] = (state + x) % states
				}
			}
			a.Ends[states-1] = true
			// Which steps come first does not matter to it.
			wantTurn(t, a, leastOf(t, a))
			if wantWhole(t, a) != states {
				t.Errorf("of %d states %d sets came up", states, comeUp(a, math.MaxInt))
			}
			for state := range states {
				a.Ends[state] = source.Intn(2) == 0
			}
			wantWhole(t, a)
		}
	}
}

// TestR1NoTracks: of words of one letter each is the same from behind.
func TestR1NoTracks(t *testing.T) {
	source := rand.New(rand.NewSource(6))
	for _, base := range bases {
		for _, states := range []int{1, 2, 3, 20, 64, 65, api.MaxStates} {
			a := still(base, 0, states)
			for state := range states {
				a.Next[state][0] = min(state+1, states-1)
				a.Ends[state] = source.Intn(2) == 0
			}
			a.Next[states-1][0] = source.Intn(states)
			wantTurn(t, a, leastOf(t, a))
			wantSets(t, a, len(leastOf(t, a).Next))
		}
	}
}

// TestR1Not: the words that are not taken are, from behind, those that are not taken from behind.
func TestR1Not(t *testing.T) {
	source := rand.New(rand.NewSource(7))
	eachShape(func(base, tracks, _ int) {
		a := wild(source, base, tracks, 5)
		no, err := pair.Not(a)
		if err != nil {
			t.Fatal(err)
		}
		want, err := pair.Not(turned(t, a))
		if err != nil {
			t.Fatal(err)
		}
		wantTurn(t, no, want)
	})
}

// TestR1Both: what two take, in whatever way, is from behind what both take from behind.
func TestR1Both(t *testing.T) {
	source := rand.New(rand.NewSource(8))
	for how := range 16 {
		a, b := wild(source, 3, 1, 3), wild(source, 3, 1, 3)
		both, err := pair.Both(a, b, how)
		if err != nil {
			t.Fatal(err)
		}
		want, err := pair.Both(turned(t, a), turned(t, b), how)
		if err != nil {
			t.Fatal(err)
		}
		wantTurn(t, both, want)
	}
}

// TestR1Spread: tracks do not mind from where they are read.
func TestR1Spread(t *testing.T) {
	source := rand.New(rand.NewSource(9))
	for _, at := range [][]int{{0, 1}, {1, 0}, {2, 0}, {1, 1}} {
		a := wild(source, 2, 2, 5)
		wide, err := track.Spread(a, 3, at)
		if err != nil {
			t.Fatal(err)
		}
		want, err := track.Spread(turned(t, a), 3, at)
		if err != nil {
			t.Fatal(err)
		}
		wantTurn(t, wide, want)
	}
}

// wheels: an automaton of base 3 and two tracks from whose first state letters 2, 3, .. lead onto a wheel each, and letter 8 to a chain. A wheel has so many states, round and round by letter 1; the chain so many, one behind the other by letter 0. All else leads to the last state, where no word ends. So from behind come up: as many sets as the wheels stand in different ways, the first one besides (with the chain's end), one for each further state of the chain, the first state's, and the one without states.
func wheels(chain int, rounds ...int) api.Auto {
	many := 2 + chain
	for _, n := range rounds {
		many += n
	}
	a := still(3, 2, many)
	for state := range many {
		a.Next[state] = slices.Repeat([]int{many - 1}, 9)
	}
	at := 1
	for i, n := range rounds {
		a.Next[0][2+i] = at
		for k := range n {
			a.Next[at+k][1] = at + (k+1)%n
		}
		a.Ends[at] = true
		at += n
	}
	a.Next[0][8] = at
	for state := at; state < at+chain-1; state++ {
		a.Next[state][0] = state + 1
	}
	a.Ends[at+chain-1] = true
	return a
}

// TestR1MaxSets: so many sets may come up, but not one more.
func TestR1MaxSets(t *testing.T) {
	for _, c := range []struct {
		a    api.Auto
		sets int
	}{
		{wheels(2, 3, 5, 7, 19), api.MaxSets - 1},
		{wheels(3, 3, 5, 7, 19), api.MaxSets},
		{wheels(4, 3, 5, 7, 19), api.MaxSets + 1},
		{wheels(1, 5, 7, 9, 13), 5*7*9*13 + 3},
		{wheels(1, 8, 9, 11, 13), 8*9*11*13 + 3},
	} {
		if got := comeUp(leastOf(t, c.a), math.MaxInt); got != c.sets {
			t.Fatalf("%d sets, not %d", got, c.sets)
		}
		wantNoTurn(t, c.a, api.ErrFull)
		if c.sets > api.MaxSets {
			wantNoSets(t, c.a, api.ErrFull)
		} else {
			wantSets(t, c.a, c.sets)
		}
	}
}

// TestR1MaxStates: what is turned may have so many states, but not one more; how many sets there are is told in any case.
func TestR1MaxStates(t *testing.T) {
	for chain := 1; chain <= 4; chain++ {
		a := wheels(chain, 7, 11)
		sets := api.MaxStates - 1 + chain
		if chain > 1 {
			wantSets(t, a, sets)
			wantNoTurn(t, a, api.ErrFull)
			continue
		}
		if wantWhole(t, a) != sets || len(turned(t, a).Next) != sets {
			t.Errorf("%d states", len(turned(t, a).Next))
		}
	}
	a := wheels(1, 2, 3, 11)
	if wantWhole(t, a) != 69 {
		t.Errorf("%d states", len(turned(t, a).Next))
	}
}

// TestR1ManyWildStates: of many states that lead anywhere come too many sets, soon or late.
func TestR1ManyWildStates(t *testing.T) {
	source := rand.New(rand.NewSource(10))
	eachShape(func(base, tracks, _ int) {
		if tracks == 0 {
			return
		}
		for _, states := range []int{63, 64, 65, api.MaxStates} {
			a := wild(source, base, tracks, states)
			if comeUp(leastOf(t, a), api.MaxSets+1) <= api.MaxSets {
				t.Fatalf("of %d states come few sets", states)
			}
			wantWrong(t, a, api.ErrFull)
		}
	})
}

// TestR1SomeSets: of some that have more sets than states may be, they are told.
func TestR1SomeSets(t *testing.T) {
	source := rand.New(rand.NewSource(11))
	for range 30 {
		a := wild(source, 2, 1, 7+source.Intn(4))
		sets := comeUp(leastOf(t, a), math.MaxInt)
		wantSets(t, a, sets)
		if sets > api.MaxStates {
			wantNoTurn(t, a, api.ErrFull)
		} else {
			wantWhole(t, a)
		}
	}
}

// TestR1LeastInItsPlace: states that no word leads to are in no set.
func TestR1LeastInItsPlace(t *testing.T) {
	a := wheels(4, 3, 5, 7, 19)
	a.Next[0] = make([]int, 9)
	if got := comeUp(a, api.MaxSets+1); got <= api.MaxStates {
		t.Fatalf("%d sets come up of what is not the least", got)
	}
	wantSets(t, a, 1)
	wantTurn(t, a, all(3, 2, false))
	// One wheel is left to which words lead.
	a.Next[0][2] = 1
	a.Next[0][1], a.Next[0][3], a.Next[0][4], a.Next[0][5] = 1, 2, 2, 3
	if got := comeUp(a, api.MaxSets+1); got <= api.MaxStates {
		t.Fatalf("%d sets come up of what is not the least", got)
	}
	wantWhole(t, a)
	// States that are the same, seen from outside, are so in each set.
	b := still(2, 1, api.MaxStates)
	for state := range b.Next {
		b.Next[state] = []int{(state + 2) % api.MaxStates, (state + 1) % api.MaxStates}
		b.Ends[state] = state%2 == 1
	}
	wantTurn(t, b, odd)
	wantSets(t, b, 2)
}

// TestR1WrongAutomata: chapter 3's Check, ahead of all else.
func TestR1WrongAutomata(t *testing.T) {
	for _, base := range []int{math.MinInt, -1, 0, api.MaxBase + 1, math.MaxInt} {
		wantWrong(t, api.Auto{Base: base, Tracks: 1, Next: [][]int{{0, 0}}, Ends: []bool{true}}, api.ErrRange)
	}
	for _, base := range bases {
		for _, tracks := range []int{math.MinInt, -1, api.MaxTracks + 1, math.MaxInt} {
			wantWrong(t, api.Auto{Base: base, Tracks: tracks, Next: [][]int{{0, 0}}, Ends: []bool{true}}, api.ErrRange)
		}
		for tracks := len(letters[base]); tracks <= api.MaxTracks; tracks++ {
			wantWrong(t, api.Auto{Base: base, Tracks: tracks}, api.ErrFull)
		}
	}
	wantWrong(t, api.Auto{}, api.ErrRange)
	eachShape(func(base, tracks, many int) {
		wantWrong(t, api.Auto{Base: base, Tracks: tracks}, api.ErrNone)
		wantWrong(t, api.Auto{Base: base, Tracks: tracks, Ends: []bool{true}}, api.ErrNone)
		wantWrong(t, still(base, tracks, api.MaxStates+1), api.ErrFull)
		for _, ends := range []int{0, 2, 4} {
			a := still(base, tracks, 3)
			a.Ends = make([]bool, ends)
			wantWrong(t, a, api.ErrShape)
		}
		for _, n := range []int{0, many - 1, many + 1} {
			a := still(base, tracks, 3)
			a.Next[2] = make([]int, n)
			wantWrong(t, a, api.ErrShape)
		}
		for _, next := range []int{math.MinInt, -1, 3, math.MaxInt} {
			a := still(base, tracks, 3)
			a.Next[2][many-1] = next
			wantWrong(t, a, api.ErrRange)
		}
	})
	full := wheels(4, 3, 5, 7, 19)
	full.Next[len(full.Next)-1][8] = len(full.Next)
	wantWrong(t, full, api.ErrRange)
}

// TestR1BehindTheLength: what lies behind a list's length is neither read nor written.
func TestR1BehindTheLength(t *testing.T) {
	row := []int{1, 0, 99}
	next := [][]int{row[:2], {1, 1}, {-1}}
	ends := []bool{false, true, true}
	a := api.Auto{Base: 2, Tracks: 1, Next: next[:2], Ends: ends[:2]}
	wantTurn(t, a, api.Auto{Base: 2, Tracks: 1, Next: [][]int{{1, 0}, {1, 1}}, Ends: []bool{false, true}})
	wantSets(t, a, 2)
	if row[2] != 99 || len(next[2]) != 1 || next[2][0] != -1 || !ends[2] {
		t.Errorf("written into: %v %v %v", row, next, ends)
	}
}

// scribble writes into all memory of an automaton, list by list, also behind the lengths; no list of it shares any with another.
func scribble(t *testing.T, a api.Auto) {
	t.Helper()
	was := clone(a)
	for state, nexts := range a.Next {
		for i := range nexts[:cap(nexts)] {
			nexts[:cap(nexts)][i] = 77
		}
		for behind := state + 1; behind < len(a.Next); behind++ {
			if !slices.Equal(a.Next[behind], was.Next[behind]) {
				t.Fatalf("states %d and %d share memory", state, behind)
			}
		}
	}
	for i := range a.Next[:cap(a.Next)] {
		a.Next[:cap(a.Next)][i] = nil
	}
	for i := range a.Ends[:cap(a.Ends)] {
		a.Ends[:cap(a.Ends)][i] = !a.Ends[:cap(a.Ends)][i]
	}
}

// TestR1FreshMemory: what comes out is the caller's, also where it is like what was handed in.
func TestR1FreshMemory(t *testing.T) {
	for _, a := range []api.Auto{odd, last1, leastOf(t, wild(rand.New(rand.NewSource(12)), 3, 2, 5))} {
		a = clone(a)
		was := clone(a)
		got := turned(t, a)
		want := clone(got)
		scribble(t, got)
		if !equal(a, was) {
			t.Errorf("%v shares memory with what is answered", was)
		}
		wantTurn(t, a, want)
	}
}
