package pair_test

import (
	"math"
	"math/rand"
	"slices"
	"testing"

	"filbert/api"
	"filbert/auto"
	"filbert/least"
	"filbert/pair"
	"filbert/plain"
)

var bases = []int{api.Fib, 2, 3, 4, 5, api.MaxBase}

var noHows = []int{math.MinInt, -16, -1, 16, 17, 31, 1 << 40, math.MaxInt}

// letters: of each base, how many there are of so many tracks.
var letters = map[int][]int{
	api.Fib: {1, 2, 4, 8, 16, 32},
	2:       {1, 2, 4, 8, 16, 32},
	3:       {1, 3, 9, 27},
	4:       {1, 4, 16},
	5:       {1, 5, 25},
	6:       {1, 6, 36},
}

// eachShape calls f with every base and every count of tracks that go together.
func eachShape(f func(base, tracks, many int)) {
	for _, base := range bases {
		for tracks, many := range letters[base] {
			f(base, tracks, many)
		}
	}
}

// still: an automaton of so many states, none of which leads to another.
func still(base, tracks, states int) api.Auto {
	a := api.Auto{Base: base, Tracks: tracks, Ends: make([]bool, states)}
	for state := range states {
		a.Next = append(a.Next, slices.Repeat([]int{state}, letters[base][tracks]))
	}
	return a
}

// wild: an automaton of so many states that lead anywhere.
func wild(source *rand.Rand, base, tracks, states int) api.Auto {
	a := still(base, tracks, states)
	for state := range states {
		a.Ends[state] = source.Intn(2) == 0
		for x := range a.Next[state] {
			a.Next[state][x] = source.Intn(states)
		}
	}
	return a
}

// turns: counts the letters for which moves is so, round and round; a word is taken that has just some rounds of them.
func turns(base, tracks, states int, moves func(x int) bool) api.Auto {
	a := still(base, tracks, states)
	for state := range states {
		for x := range a.Next[state] {
			if moves(x) {
				a.Next[state][x] = (state + 1) % states
			}
		}
	}
	a.Ends[0] = true
	return a
}

func all(int) bool { return true }

func even(x int) bool { return x%2 == 0 }

func odd(x int) bool { return x%2 == 1 }

func clone(a api.Auto) api.Auto {
	b := a
	b.Ends = slices.Clone(a.Ends)
	b.Next = nil
	for _, nexts := range a.Next {
		b.Next = append(b.Next, slices.Clone(nexts))
	}
	return b
}

func equal(a, b api.Auto) bool {
	return a.Base == b.Base && a.Tracks == b.Tracks && slices.Equal(a.Ends, b.Ends) && slices.EqualFunc(a.Next, b.Next, slices.Equal)
}

// empty: an automaton of which all is 0 or nil, as it comes with an error.
func empty(a api.Auto) bool {
	return a.Base == 0 && a.Tracks == 0 && a.Next == nil && a.Ends == nil
}

func leastOf(t *testing.T, a api.Auto) api.Auto {
	t.Helper()
	got, err := least.Least(a)
	if err != nil {
		t.Fatalf("Least(%v): %v", a, err)
	}
	return got
}

func both(t *testing.T, a, b api.Auto, how int) api.Auto {
	t.Helper()
	got, err := pair.Both(a, b, how)
	if err != nil {
		t.Fatalf("Both(%v, %v, %d): %v", a, b, how, err)
	}
	return got
}

func not(t *testing.T, a api.Auto) api.Auto {
	t.Helper()
	got, err := pair.Not(a)
	if err != nil {
		t.Fatalf("Not(%v): %v", a, err)
	}
	return got
}

func wantBoth(t *testing.T, a, b api.Auto, how int, want api.Auto) {
	t.Helper()
	if got := both(t, a, b, how); !equal(got, want) {
		t.Errorf("Both(%v, %v, %d): got %v, want %v", a, b, how, got, want)
	}
}

func wantNot(t *testing.T, a, want api.Auto) {
	t.Helper()
	if got := not(t, a); !equal(got, want) {
		t.Errorf("Not(%v): got %v, want %v", a, got, want)
	}
}

func wantNoBoth(t *testing.T, a, b api.Auto, how int, errno api.Errno) {
	t.Helper()
	if got, err := pair.Both(a, b, how); !empty(got) || plain.Told(err) != errno {
		t.Errorf("Both(%v, %v, %d): got %v %v, want %v", a, b, how, got, err, errno)
	}
}

// wantNeither: whichever way they are put together, this is wrong; but a how that is none is told ahead of it.
func wantNeither(t *testing.T, a, b api.Auto, errno api.Errno) {
	t.Helper()
	for how := range 16 {
		wantNoBoth(t, a, b, how, errno)
	}
	for _, how := range noHows {
		wantNoBoth(t, a, b, how, api.ErrRange)
	}
}

// wantWrong: what is wrong with an automaton is told by every call, ahead of what does not go together.
func wantWrong(t *testing.T, a api.Auto, errno api.Errno) {
	t.Helper()
	if got, err := pair.Not(a); !empty(got) || plain.Told(err) != errno {
		t.Errorf("Not(%v): got %v %v, want %v", a, got, err, errno)
	}
	for _, other := range []api.Auto{still(2, 1, 1), still(5, 2, 2), still(api.Fib, 0, 1)} {
		wantNeither(t, a, other, errno)
		wantNeither(t, other, a, errno)
	}
	wantNeither(t, a, a, errno)
}

// says: what the document says of a word, bit by bit.
func says(how int, byA, byB bool) bool {
	switch {
	case !byA && !byB:
		return how&1 != 0
	case byA && !byB:
		return how&2 != 0
	case byB && !byA:
		return how&4 != 0
	}
	return how&8 != 0
}

// wantTakes: got takes just the words that how says, found by running all three along all words, side by side.
func wantTakes(t *testing.T, a, b api.Auto, how int, got api.Auto) {
	t.Helper()
	if err := auto.Check(got); err != nil || got.Base != a.Base || got.Tracks != a.Tracks {
		t.Fatalf("Both(%v, %v, %d): got %v, which is wrong: %v", a, b, how, got, err)
	}
	met := map[[3]int]bool{{}: true}
	for waiting := [][3]int{{}}; len(waiting) > 0; waiting = waiting[1:] {
		at := waiting[0]
		if got.Ends[at[2]] != says(how, a.Ends[at[0]], b.Ends[at[1]]) {
			t.Fatalf("Both(%v, %v, %d): got %v, which takes other words", a, b, how, got)
		}
		for x := range a.Next[0] {
			to := [3]int{a.Next[at[0]][x], b.Next[at[1]][x], got.Next[at[2]][x]}
			if !met[to] {
				met[to] = true
				waiting = append(waiting, to)
			}
		}
	}
}

func TestB1Examples(t *testing.T) {
	odd := api.Auto{Base: 2, Tracks: 1, Next: [][]int{{0, 1}, {1, 0}}, Ends: []bool{false, true}}
	even := api.Auto{Base: 2, Tracks: 1, Next: [][]int{{0, 1}, {1, 0}}, Ends: []bool{true, false}}
	none := api.Auto{Base: 2, Tracks: 1, Next: [][]int{{0, 0}}, Ends: []bool{false}}
	all := api.Auto{Base: 2, Tracks: 1, Next: [][]int{{0, 0}}, Ends: []bool{true}}
	wantBoth(t, odd, odd, 6, none)
	wantBoth(t, odd, odd, 15, all)
	wantBoth(t, odd, odd, 8, odd)
	wantBoth(t, odd, odd, 1, even)
	wantBoth(t, odd, even, 8, none)
	wantBoth(t, odd, even, 14, all)
	wantNot(t, odd, even)
	wantNot(t, even, odd)
	wantNot(t, none, all)
	wantNot(t, all, none)
	// Words that have an odd count of 1s and end in a 0: the states are numbered as they are met.
	zero := api.Auto{Base: 2, Tracks: 1, Next: [][]int{{1, 0}, {1, 0}}, Ends: []bool{false, true}}
	wantBoth(t, odd, zero, 8, api.Auto{Base: 2, Tracks: 1, Next: [][]int{{0, 1}, {2, 0}, {2, 0}}, Ends: []bool{false, false, true}})
}

// TestB1EachHow: of two automata that tell all four cases apart by the empty word, each bit says its own.
func TestB1EachHow(t *testing.T) {
	eachShape(func(base, tracks, many int) {
		for how := range 16 {
			for bit := range 4 {
				a, b := still(base, tracks, 1), still(base, tracks, 1)
				a.Ends[0], b.Ends[0] = bit == 1 || bit == 3, bit == 2 || bit == 3
				want := api.Auto{Base: base, Tracks: tracks, Next: [][]int{make([]int, many)}, Ends: []bool{how&(1<<bit) != 0}}
				wantBoth(t, a, b, how, want)
			}
		}
	})
}

// TestB1WildAutomata: what comes is the least automaton of the words that how says.
func TestB1WildAutomata(t *testing.T) {
	source := rand.New(rand.NewSource(1))
	eachShape(func(base, tracks, _ int) {
		for range 6 {
			a, b := wild(source, base, tracks, 1+source.Intn(9)), wild(source, base, tracks, 1+source.Intn(8))
			wasA, wasB := clone(a), clone(b)
			for how := range 16 {
				got := both(t, a, b, how)
				wantTakes(t, a, b, how, got)
				if !equal(got, leastOf(t, got)) {
					t.Fatalf("Both(%v, %v, %d): got %v, which is not the least", a, b, how, got)
				}
				// b and a put together the other way round: bits 1 and 2 change places.
				wantBoth(t, b, a, how&9|how&2<<1|how&4>>1, got)
				wantNot(t, got, both(t, a, b, 15-how))
				wantBoth(t, leastOf(t, a), leastOf(t, b), how, got)
			}
			if !equal(a, wasA) || !equal(b, wasB) {
				t.Fatalf("%v or %v was written into", wasA, wasB)
			}
		}
	})
}

// TestB1Alone: some hows ask one of the two alone, or none.
func TestB1Alone(t *testing.T) {
	source := rand.New(rand.NewSource(2))
	eachShape(func(base, tracks, many int) {
		for _, states := range []int{1, 2, 17, api.MaxStates} {
			a, b := wild(source, base, tracks, states), wild(source, base, tracks, states)
			no := api.Auto{Base: base, Tracks: tracks, Next: [][]int{make([]int, many)}, Ends: []bool{false}}
			yes := api.Auto{Base: base, Tracks: tracks, Next: [][]int{make([]int, many)}, Ends: []bool{true}}
			wantBoth(t, a, b, 0, no)
			wantBoth(t, a, b, 15, yes)
			wantBoth(t, a, b, 10, leastOf(t, a))
			wantBoth(t, a, b, 12, leastOf(t, b))
			wantBoth(t, a, b, 5, not(t, a))
			wantBoth(t, a, b, 3, not(t, b))
			wantBoth(t, a, a, 8, leastOf(t, a))
			wantBoth(t, a, a, 6, no)
			wantBoth(t, a, not(t, a), 6, yes)
		}
	})
}

// TestB1Not: what is not taken is taken, by as many states; and not so twice is as it was.
func TestB1Not(t *testing.T) {
	source := rand.New(rand.NewSource(3))
	eachShape(func(base, tracks, many int) {
		for _, states := range []int{1, 2, 3, 9, api.MaxStates - 1, api.MaxStates} {
			a := wild(source, base, tracks, states)
			was := clone(a)
			got := not(t, a)
			want := leastOf(t, a)
			wantNot(t, got, want)
			for state := range want.Ends {
				want.Ends[state] = !want.Ends[state]
			}
			if !equal(got, want) {
				t.Errorf("Not(%v): got %v, want %v", a, got, want)
			}
			for range 20 {
				w := make([]int, source.Intn(30))
				for i := range w {
					w[i] = source.Intn(many)
				}
				by, _ := auto.Takes(a, w)
				if now, err := auto.Takes(got, w); now == by || err != nil {
					t.Errorf("Not(%v): %v: %t %v", a, w, now, err)
				}
			}
			if !equal(a, was) {
				t.Fatalf("%v was written into", was)
			}
		}
	})
}

// TestB1MostStates: as many states as may be, and one more.
func TestB1MostStates(t *testing.T) {
	eachShape(func(base, tracks, many int) {
		// The letters of all rounds of 5 and of 16 are as many as those of all rounds of 80; of 9 and of 10 as those of 90.
		wantBoth(t, turns(base, tracks, 5, all), turns(base, tracks, 16, all), 8, turns(base, tracks, 80, all))
		wantBoth(t, turns(base, tracks, 40, all), turns(base, tracks, 80, all), 8, turns(base, tracks, 80, all))
		wantBoth(t, turns(base, tracks, 40, all), turns(base, tracks, 80, all), 14, turns(base, tracks, 40, all))
		wantNoBoth(t, turns(base, tracks, 9, all), turns(base, tracks, 10, all), 8, api.ErrFull)
		if many == 1 {
			return
		}
		a, b := turns(base, tracks, 8, even), turns(base, tracks, 10, odd)
		got := both(t, a, b, 8)
		if len(got.Next) != api.MaxStates {
			t.Errorf("base %d, %d tracks: got %d states", base, tracks, len(got.Next))
		}
		wantTakes(t, a, b, 8, got)
		wantTakes(t, a, b, 7, both(t, a, b, 7))
		a, b = turns(base, tracks, 9, even), turns(base, tracks, 9, odd)
		for how := range 16 {
			switch how {
			case 0, 3, 5, 10, 12, 15:
				wantTakes(t, a, b, how, both(t, a, b, how))
			default:
				wantNoBoth(t, a, b, how, api.ErrFull)
			}
		}
	})
}

// TestB1MostPairs: it is the least automaton that may not have too many states: the pairs of states may be as many as they like.
func TestB1MostPairs(t *testing.T) {
	eachShape(func(base, tracks, many int) {
		a, b := turns(base, tracks, api.MaxStates, all), turns(base, tracks, api.MaxStates-1, all)
		if many > 1 {
			a, b = turns(base, tracks, api.MaxStates, even), turns(base, tracks, api.MaxStates, odd)
		}
		wantBoth(t, a, b, 10, a)
		wantBoth(t, a, b, 12, leastOf(t, b))
		wantBoth(t, a, b, 0, leastOf(t, still(base, tracks, 1)))
		wantNoBoth(t, a, b, 8, api.ErrFull)
		wantNoBoth(t, a, b, 6, api.ErrFull)
		wantNoBoth(t, a, b, 14, api.ErrFull)
	})
}

// TestB1FarStates: states that no word leads to do not count.
func TestB1FarStates(t *testing.T) {
	a := turns(2, 1, 3, all)
	far := clone(a)
	for len(far.Next) < api.MaxStates {
		far.Next = append(far.Next, []int{len(far.Next) % 7, len(far.Next)})
		far.Ends = append(far.Ends, true)
	}
	b := turns(2, 1, 25, odd)
	for how := range 16 {
		wantBoth(t, far, b, how, both(t, a, b, how))
		wantBoth(t, b, far, how, both(t, b, a, how))
	}
	wantNot(t, far, not(t, a))
}

func TestB1WrongHow(t *testing.T) {
	eachShape(func(base, tracks, _ int) {
		for _, how := range noHows {
			wantNoBoth(t, still(base, tracks, 1), still(base, tracks, 2), how, api.ErrRange)
		}
	})
}

// TestB1OtherShape: Base and Tracks both have to be the same, even where letters are as many.
func TestB1OtherShape(t *testing.T) {
	eachShape(func(base, tracks, _ int) {
		eachShape(func(base2, tracks2, _ int) {
			a, b := still(base, tracks, 2), still(base2, tracks2, 2)
			if base != base2 || tracks != tracks2 {
				wantNeither(t, a, b, api.ErrShape)
			}
		})
	})
}

func TestB1WrongAutomata(t *testing.T) {
	for _, base := range []int{math.MinInt, -1, 0, api.MaxBase + 1, math.MaxInt} {
		wantWrong(t, api.Auto{Base: base, Tracks: 1, Next: [][]int{{0, 0}}, Ends: []bool{true}}, api.ErrRange)
	}
	for _, base := range bases {
		for _, tracks := range []int{math.MinInt, -1, api.MaxTracks + 1, math.MaxInt} {
			wantWrong(t, api.Auto{Base: base, Tracks: tracks, Next: [][]int{{0, 0}}, Ends: []bool{true}}, api.ErrRange)
		}
		for tracks := len(letters[base]); tracks <= api.MaxTracks; tracks++ {
			wantWrong(t, api.Auto{Base: base, Tracks: tracks}, api.ErrFull)
		}
	}
	wantWrong(t, api.Auto{}, api.ErrRange)
	eachShape(func(base, tracks, many int) {
		wantWrong(t, api.Auto{Base: base, Tracks: tracks}, api.ErrNone)
		wantWrong(t, api.Auto{Base: base, Tracks: tracks, Ends: []bool{true}}, api.ErrNone)
		wantWrong(t, still(base, tracks, api.MaxStates+1), api.ErrFull)
		for _, ends := range []int{0, 2, 4} {
			a := still(base, tracks, 3)
			a.Ends = make([]bool, ends)
			wantWrong(t, a, api.ErrShape)
		}
		for _, n := range []int{0, many - 1, many + 1} {
			a := still(base, tracks, 3)
			a.Next[2] = make([]int, n)
			wantWrong(t, a, api.ErrShape)
		}
		for _, next := range []int{math.MinInt, -1, 3, math.MaxInt} {
			a := still(base, tracks, 3)
			a.Next[2][many-1] = next
			wantWrong(t, a, api.ErrRange)
		}
	})
}

// TestB1ErrorOrder: what is wrong with a comes ahead of what is wrong with b, and both ahead of ErrShape.
func TestB1ErrorOrder(t *testing.T) {
	none, ends, next, full := still(2, 1, 0), still(3, 1, 2), still(2, 2, 1), still(4, 1, api.MaxStates+1)
	ends.Ends = nil
	next.Next[0][1] = 1
	wrong := []struct {
		a     api.Auto
		errno api.Errno
	}{{none, api.ErrNone}, {ends, api.ErrShape}, {next, api.ErrRange}, {full, api.ErrFull}, {api.Auto{}, api.ErrRange}}
	for _, first := range wrong {
		for _, second := range wrong {
			wantNeither(t, first.a, second.a, first.errno)
		}
	}
}

// TestWithin: it is as if two calls put three automata together, whatever comes between them.
func TestWithin(t *testing.T) {
	source := rand.New(rand.NewSource(4))
	eachShape(func(base, tracks, many int) {
		for range 4 {
			a, b, c := wild(source, base, tracks, 1+source.Intn(7)), wild(source, base, tracks, 1+source.Intn(5)), wild(source, base, tracks, 1+source.Intn(2))
			was := []api.Auto{clone(a), clone(b), clone(c)}
			for how := range 16 {
				got, err := pair.Within(a, b, c, how)
				if want := both(t, both(t, a, b, how), c, 8); err != nil || !equal(got, want) {
					t.Errorf("Within(%v, %v, %v, %d): got %v %v, want %v", a, b, c, how, got, err, want)
				}
			}
			if !equal(a, was[0]) || !equal(b, was[1]) || !equal(c, was[2]) {
				t.Fatalf("%v was written into", was)
			}
		}
		if many == 1 {
			return
		}
		// Among words without odd letters 80 times 80 pairs come to few states, one of them for the other words.
		a, b, c := turns(base, tracks, api.MaxStates-1, even), turns(base, tracks, api.MaxStates, odd), turns(base, tracks, 2, odd)
		c.Next[1] = slices.Repeat([]int{1}, many)
		wantNoBoth(t, a, b, 8, api.ErrFull)
		got, err := pair.Within(a, b, c, 8)
		if err != nil || len(got.Next) != api.MaxStates || !equal(got, both(t, a, c, 8)) {
			t.Errorf("base %d, %d tracks: got %v %v", base, tracks, got, err)
		}
		if got, err := pair.Within(b, b, turns(base, tracks, 2, even), 8); !empty(got) || plain.Told(err) != api.ErrFull {
			t.Errorf("base %d, %d tracks: got %v %v", base, tracks, got, err)
		}
	})
}

// TestWithinWrong: what is wrong with how, then with each automaton, then with what does not go together.
func TestWithinWrong(t *testing.T) {
	one, none, full := still(2, 1, 1), still(2, 1, 0), still(2, 1, api.MaxStates+1)
	for _, c := range []struct {
		a, b, c api.Auto
		how     int
		errno   api.Errno
	}{
		{none, full, api.Auto{}, -1, api.ErrRange},
		{one, one, one, 16, api.ErrRange},
		{none, full, api.Auto{}, 8, api.ErrNone},
		{one, full, api.Auto{}, 8, api.ErrFull},
		{one, one, api.Auto{}, 8, api.ErrRange},
		{one, one, none, 8, api.ErrNone},
		{one, one, still(2, 2, 1), 8, api.ErrShape},
		{one, still(3, 1, 1), one, 8, api.ErrShape},
	} {
		if got, err := pair.Within(c.a, c.b, c.c, c.how); !empty(got) || plain.Told(err) != c.errno {
			t.Errorf("Within(%v, %v, %v, %d): got %v %v, want %v", c.a, c.b, c.c, c.how, got, err, c.errno)
		}
	}
}

// TestB1BehindTheLength: what lies behind a list's length is neither read nor written.
func TestB1BehindTheLength(t *testing.T) {
	row := []int{1, 0, 99}
	next := [][]int{row[:2], {1, 1}, {-1}}
	ends := []bool{false, true, true}
	a := api.Auto{Base: 2, Tracks: 1, Next: next[:2], Ends: ends[:2]}
	wantBoth(t, a, a, 8, a)
	wantBoth(t, a, turns(2, 1, 2, odd), 10, a)
	wantNot(t, a, api.Auto{Base: 2, Tracks: 1, Next: a.Next, Ends: []bool{true, false}})
	if row[2] != 99 || len(next[2]) != 1 || next[2][0] != -1 || !ends[2] {
		t.Errorf("written into: %v %v %v", row, next, ends)
	}
}

// scribble writes into all memory of an automaton, list by list, also behind the lengths; no list of it shares any with another.
func scribble(t *testing.T, a api.Auto) {
	t.Helper()
	was := clone(a)
	for state, nexts := range a.Next {
		for i := range nexts[:cap(nexts)] {
			nexts[:cap(nexts)][i] = 77
		}
		for behind := state + 1; behind < len(a.Next); behind++ {
			if !slices.Equal(a.Next[behind], was.Next[behind]) {
				t.Fatalf("states %d and %d share memory", state, behind)
			}
		}
	}
	for i := range a.Next[:cap(a.Next)] {
		a.Next[:cap(a.Next)][i] = nil
	}
	for i := range a.Ends[:cap(a.Ends)] {
		a.Ends[:cap(a.Ends)][i] = !a.Ends[:cap(a.Ends)][i]
	}
}

// TestB1FreshMemory: what comes out is the caller's, also where it is like what was handed in.
func TestB1FreshMemory(t *testing.T) {
	a, b := turns(3, 1, 5, odd), turns(3, 1, 7, even)
	wasA, wasB := clone(a), clone(b)
	for how := range 16 {
		got := both(t, a, b, how)
		want := clone(got)
		scribble(t, got)
		wantBoth(t, a, b, how, want)
	}
	got := not(t, a)
	want := clone(got)
	scribble(t, got)
	wantNot(t, a, want)
	scribble(t, both(t, a, a, 8))
	if !equal(a, wasA) || !equal(b, wasB) {
		t.Errorf("%v or %v shares memory with what is answered", wasA, wasB)
	}
}
