package track_test

import (
	"math"
	"math/rand"
	"slices"
	"testing"

	"filbert/api"
	"filbert/auto"
	"filbert/least"
	"filbert/pair"
	"filbert/plain"
	"filbert/track"
)

var bases = []int{api.Fib, 2, 3, 4, 5, api.MaxBase}

// letters: of each base, how many there are of so many tracks.
var letters = map[int][]int{
	api.Fib: {1, 2, 4, 8, 16, 32},
	2:       {1, 2, 4, 8, 16, 32},
	3:       {1, 3, 9, 27},
	4:       {1, 4, 16},
	5:       {1, 5, 25},
	6:       {1, 6, 36},
}

// eachShape calls f with every base and every count of tracks that go together.
func eachShape(f func(base, tracks, many int)) {
	for _, base := range bases {
		for tracks, many := range letters[base] {
			f(base, tracks, many)
		}
	}
}

// still: an automaton of so many states, none of which leads to another.
func still(base, tracks, states int) api.Auto {
	a := api.Auto{Base: base, Tracks: tracks, Ends: make([]bool, states)}
	for state := range states {
		a.Next = append(a.Next, slices.Repeat([]int{state}, letters[base][tracks]))
	}
	return a
}

// wild: an automaton of so many states that lead anywhere.
func wild(source *rand.Rand, base, tracks, states int) api.Auto {
	a := still(base, tracks, states)
	for state := range states {
		a.Ends[state] = source.Intn(2) == 0
		for x := range a.Next[state] {
			a.Next[state][x] = source.Intn(states)
		}
	}
	return a
}

// turns: counts the letters, round and round; a word is taken that has just some rounds of them.
func turns(base, tracks, states int) api.Auto {
	a := still(base, tracks, states)
	for state := range states {
		for x := range a.Next[state] {
			a.Next[state][x] = (state + 1) % states
		}
	}
	a.Ends[0] = true
	return a
}

func clone(a api.Auto) api.Auto {
	b := a
	b.Ends = slices.Clone(a.Ends)
	b.Next = nil
	for _, nexts := range a.Next {
		b.Next = append(b.Next, slices.Clone(nexts))
	}
	return b
}

func equal(a, b api.Auto) bool {
	return a.Base == b.Base && a.Tracks == b.Tracks && slices.Equal(a.Ends, b.Ends) && slices.EqualFunc(a.Next, b.Next, slices.Equal)
}

// empty: an automaton of which all is 0 or nil, as it comes with an error.
func empty(a api.Auto) bool {
	return a.Base == 0 && a.Tracks == 0 && a.Next == nil && a.Ends == nil
}

// kinds: how many digits there are.
func kinds(base int) int { return letters[base][1] }

// digits of a letter, the first track's counting most.
func digits(base, tracks, x int) []int {
	d := make([]int, tracks)
	for i := tracks - 1; i >= 0; i-- {
		d[i] = x % kinds(base)
		x /= kinds(base)
	}
	return d
}

// letterOf digits.
func letterOf(base int, d []int) int {
	x := 0
	for _, digit := range d {
		x = x*kinds(base) + digit
	}
	return x
}

// upTo: 0, 1, 2, .. below n.
func upTo(n int) []int {
	var at []int
	for i := range n {
		at = append(at, i)
	}
	return at
}

// places: some tracks out of so many, as many as wanted.
func places(source *rand.Rand, many, tracks int) []int {
	at := make([]int, many)
	for i := range at {
		at[i] = source.Intn(tracks)
	}
	return at
}

func leastOf(t *testing.T, a api.Auto) api.Auto {
	t.Helper()
	got, err := least.Least(a)
	if err != nil {
		t.Fatalf("Least(%v): %v", a, err)
	}
	return got
}

func spread(t *testing.T, a api.Auto, tracks int, at ...int) api.Auto {
	t.Helper()
	got, err := track.Spread(a, tracks, at)
	if err != nil {
		t.Fatalf("Spread(%v, %d, %v): %v", a, tracks, at, err)
	}
	return got
}

func fix(t *testing.T, a api.Auto, on, digit int) api.Auto {
	t.Helper()
	got, err := track.Fix(a, on, digit)
	if err != nil {
		t.Fatalf("Fix(%v, %d, %d): %v", a, on, digit, err)
	}
	return got
}

func wantSpread(t *testing.T, a api.Auto, tracks int, at []int, want api.Auto) {
	t.Helper()
	if got := spread(t, a, tracks, at...); !equal(got, want) {
		t.Errorf("Spread(%v, %d, %v): got %v, want %v", a, tracks, at, got, want)
	}
}

func wantFix(t *testing.T, a api.Auto, on, digit int, want api.Auto) {
	t.Helper()
	if got := fix(t, a, on, digit); !equal(got, want) {
		t.Errorf("Fix(%v, %d, %d): got %v, want %v", a, on, digit, got, want)
	}
}

func wantNoSpread(t *testing.T, a api.Auto, tracks int, at []int, errno api.Errno) {
	t.Helper()
	if got, err := track.Spread(a, tracks, at); !empty(got) || plain.Told(err) != errno {
		t.Errorf("Spread(%v, %d, %v): got %v %v, want %v", a, tracks, at, got, err, errno)
	}
}

func wantNoFix(t *testing.T, a api.Auto, on, digit int, errno api.Errno) {
	t.Helper()
	if got, err := track.Fix(a, on, digit); !empty(got) || plain.Told(err) != errno {
		t.Errorf("Fix(%v, %d, %d): got %v %v, want %v", a, on, digit, got, err, errno)
	}
}

// wantReads: got is the least automaton, with so many tracks, that takes a word if a takes the word of the old letters, found by running both along all words, side by side.
func wantReads(t *testing.T, name string, a, got api.Auto, tracks int, old func(d []int) []int) {
	t.Helper()
	if err := auto.Check(got); err != nil || got.Base != a.Base || got.Tracks != tracks {
		t.Fatalf("%s(%v): got %v, which is wrong: %v", name, a, got, err)
	}
	if !equal(got, leastOf(t, got)) {
		t.Fatalf("%s(%v): got %v, which is not the least", name, a, got)
	}
	met := map[[2]int]bool{{}: true}
	for waiting := [][2]int{{}}; len(waiting) > 0; waiting = waiting[1:] {
		at := waiting[0]
		if a.Ends[at[0]] != got.Ends[at[1]] {
			t.Fatalf("%s(%v): got %v, which takes other words", name, a, got)
		}
		for x := range got.Next[0] {
			was := letterOf(a.Base, old(digits(a.Base, tracks, x)))
			to := [2]int{a.Next[at[0]][was], got.Next[at[1]][x]}
			if !met[to] {
				met[to] = true
				waiting = append(waiting, to)
			}
		}
	}
}

// wantWrong: what is wrong with an automaton is told ahead of all else.
func wantWrong(t *testing.T, a api.Auto, errno api.Errno) {
	t.Helper()
	for _, tracks := range []int{math.MinInt, -1, 0, 1, 2, a.Tracks, api.MaxTracks, api.MaxTracks + 1, math.MaxInt} {
		for _, at := range [][]int{nil, {0}, {0, 1}, {1, 1}, {-1}, {math.MaxInt, math.MinInt}} {
			wantNoSpread(t, a, tracks, at, errno)
		}
	}
	for _, on := range []int{math.MinInt, -1, 0, 1, 5, math.MaxInt} {
		for _, digit := range []int{math.MinInt, -1, 0, 1, 6, math.MaxInt} {
			wantNoFix(t, a, on, digit, errno)
		}
	}
}

// odd takes words with an odd count of 1s; first: of two tracks, those that have their first 1 on the first track alone.
var (
	odd   = api.Auto{Base: 2, Tracks: 1, Next: [][]int{{0, 1}, {1, 0}}, Ends: []bool{false, true}}
	first = api.Auto{Base: 2, Tracks: 2, Next: [][]int{{0, 1, 2, 1}, {1, 1, 1, 1}, {2, 2, 2, 2}}, Ends: []bool{false, false, true}}
)

func TestT1Examples(t *testing.T) {
	wantSpread(t, odd, 2, []int{1}, api.Auto{Base: 2, Tracks: 2, Next: [][]int{{0, 1, 0, 1}, {1, 0, 1, 0}}, Ends: []bool{false, true}})
	wantSpread(t, odd, 2, []int{0}, api.Auto{Base: 2, Tracks: 2, Next: [][]int{{0, 0, 1, 1}, {1, 1, 0, 0}}, Ends: []bool{false, true}})
	wantNoSpread(t, odd, 2, []int{2}, api.ErrRange)
	wantSpread(t, odd, 1, []int{0}, odd)
	wantSpread(t, first, 2, []int{0, 1}, first)
	// The tracks change places: the letters 1 and 2 do, and so do the numbers of the states to which they lead.
	wantSpread(t, first, 2, []int{1, 0}, api.Auto{Base: 2, Tracks: 2, Next: [][]int{{0, 1, 2, 2}, {1, 1, 1, 1}, {2, 2, 2, 2}}, Ends: []bool{false, true, false}})
	// Of a number and itself, neither has the first 1 alone.
	wantSpread(t, first, 1, []int{0, 0}, api.Auto{Base: 2, Tracks: 1, Next: [][]int{{0, 0}}, Ends: []bool{false}})
	wantSpread(t, first, 3, []int{2, 0}, api.Auto{Base: 2, Tracks: 3, Next: [][]int{{0, 1, 0, 1, 2, 2, 2, 2}, slices.Repeat([]int{1}, 8), slices.Repeat([]int{2}, 8)}, Ends: []bool{false, true, false}})
}

// TestT1NoTracks: an automaton without tracks reads how long a word is, alone; spread, it does so of every word.
func TestT1NoTracks(t *testing.T) {
	for _, base := range bases {
		for tracks := range letters[base] {
			for _, states := range []int{1, 2, 7, api.MaxStates} {
				wantSpread(t, turns(base, 0, states), tracks, nil, turns(base, tracks, states))
				wantSpread(t, turns(base, 0, states), tracks, []int{}, turns(base, tracks, states))
			}
		}
	}
}

// TestT1WildAutomata: all shapes to all shapes, with tracks anywhere, also on the same one, also onto fewer.
func TestT1WildAutomata(t *testing.T) {
	source := rand.New(rand.NewSource(1))
	eachShape(func(base, tracks, _ int) {
		for wide := range letters[base] {
			if wide == 0 && tracks > 0 {
				continue
			}
			for _, states := range []int{1, 2, 5, 20, api.MaxStates} {
				a := wild(source, base, tracks, states)
				at := places(source, tracks, wide)
				was, wasAt := clone(a), slices.Clone(at)
				got := spread(t, a, wide, at...)
				wantReads(t, "Spread", a, got, wide, func(d []int) []int {
					var old []int
					for _, i := range at {
						old = append(old, d[i])
					}
					return old
				})
				wantSpread(t, leastOf(t, a), wide, at, got)
				if !equal(a, was) || !slices.Equal(at, wasAt) {
					t.Fatalf("%v or %v was written into", was, wasAt)
				}
			}
		}
	})
}

// TestT1Same: each track on its own is as it was, but for needless states.
func TestT1Same(t *testing.T) {
	source := rand.New(rand.NewSource(2))
	eachShape(func(base, tracks, _ int) {
		for _, states := range []int{1, 2, 9, api.MaxStates} {
			a := wild(source, base, tracks, states)
			wantSpread(t, a, tracks, upTo(tracks), leastOf(t, a))
		}
	})
}

// TestT1ThereAndBack: tracks that change places and change them again are as they were.
func TestT1ThereAndBack(t *testing.T) {
	source := rand.New(rand.NewSource(3))
	eachShape(func(base, tracks, _ int) {
		for range 4 {
			a := wild(source, base, tracks, 1+source.Intn(12))
			at := source.Perm(tracks)
			back := make([]int, tracks)
			for i, x := range at {
				back[x] = i
			}
			wantSpread(t, spread(t, a, tracks, at...), tracks, back, leastOf(t, a))
		}
	})
}

// TestT1TwiceIsOnce: spread and spread again is spread at once.
func TestT1TwiceIsOnce(t *testing.T) {
	source := rand.New(rand.NewSource(4))
	for _, base := range bases {
		most := len(letters[base])
		for range 20 {
			tracks := source.Intn(most)
			a := wild(source, base, tracks, 1+source.Intn(12))
			one, two := 1+source.Intn(most-1), 1+source.Intn(most-1)
			at, then := places(source, tracks, one), places(source, one, two)
			var once []int
			for _, i := range at {
				once = append(once, then[i])
			}
			wantSpread(t, spread(t, a, one, at...), two, then, spread(t, a, two, once...))
		}
	}
}

// TestT1FarStates: states that no word leads to do not count, also those to which only letters led that are read no more.
func TestT1FarStates(t *testing.T) {
	// States 0 and 1 lead to each other by equal digits, and to all others by unequal ones.
	a := still(3, 2, api.MaxStates)
	for state := range a.Next {
		for x := range a.Next[state] {
			a.Next[state][x] = 2 + (state*9+x)%(api.MaxStates-2)
		}
		a.Ends[state] = state%3 == 1
	}
	for digit := range 3 {
		a.Next[0][4*digit], a.Next[1][4*digit] = 1, 0
	}
	wantSpread(t, a, 1, []int{0, 0}, api.Auto{Base: 3, Tracks: 1, Next: [][]int{{1, 1, 1}, {0, 0, 0}}, Ends: []bool{false, true}})
	wantSpread(t, a, 3, []int{2, 2}, api.Auto{Base: 3, Tracks: 3, Next: [][]int{slices.Repeat([]int{1}, 27), slices.Repeat([]int{0}, 27)}, Ends: []bool{false, true}})
}

// TestT1WrongTracks: what is wrong with so many tracks comes ahead of what is wrong with at.
func TestT1WrongTracks(t *testing.T) {
	eachShape(func(base, tracks, _ int) {
		a := still(base, tracks, 2)
		for _, at := range [][]int{upTo(tracks), nil, {0}, {-1, 0, 0, 0, 0, 0}, slices.Repeat([]int{9}, tracks)} {
			for _, wide := range []int{math.MinInt, -2, -1, api.MaxTracks + 1, api.MaxTracks + 2, math.MaxInt} {
				wantNoSpread(t, a, wide, at, api.ErrRange)
			}
			for wide := len(letters[base]); wide <= api.MaxTracks; wide++ {
				wantNoSpread(t, a, wide, at, api.ErrFull)
			}
		}
	})
}

// TestT1WrongPlaces: too many or too few of them; then those that are no track.
func TestT1WrongPlaces(t *testing.T) {
	eachShape(func(base, tracks, _ int) {
		a := still(base, tracks, 2)
		for wide := range letters[base] {
			for many := range api.MaxTracks + 3 {
				if many != tracks {
					wantNoSpread(t, a, wide, make([]int, many), api.ErrShape)
					wantNoSpread(t, a, wide, slices.Repeat([]int{-1}, many), api.ErrShape)
				}
			}
			for i := range tracks {
				for _, place := range []int{math.MinInt, -1, wide, wide + 1, math.MaxInt} {
					at := make([]int, tracks)
					at[i] = place
					wantNoSpread(t, a, wide, at, api.ErrRange)
				}
			}
		}
	})
}

func TestT2Examples(t *testing.T) {
	wantFix(t, odd, 0, 1, api.Auto{Base: 2, Tracks: 0, Next: [][]int{{1}, {0}}, Ends: []bool{false, true}})
	wantFix(t, odd, 0, 0, api.Auto{Base: 2, Tracks: 0, Next: [][]int{{0}}, Ends: []bool{false}})
	wantNoFix(t, odd, 0, 2, api.ErrRange)
	wantNoFix(t, odd, 1, 0, api.ErrRange)
	// With 0s on the second track, any 1 of the first one is alone; with 1s, none is.
	wantFix(t, first, 1, 0, api.Auto{Base: 2, Tracks: 1, Next: [][]int{{0, 1}, {1, 1}}, Ends: []bool{false, true}})
	wantFix(t, first, 1, 1, api.Auto{Base: 2, Tracks: 1, Next: [][]int{{0, 0}}, Ends: []bool{false}})
	wantFix(t, first, 0, 1, api.Auto{Base: 2, Tracks: 1, Next: [][]int{{1, 2}, {1, 1}, {2, 2}}, Ends: []bool{false, true, false}})
	// Of Fib, too, the digit stands there all along, even though no number has 1s side by side.
	fib := odd
	fib.Base = api.Fib
	wantFix(t, fib, 0, 1, api.Auto{Base: api.Fib, Tracks: 0, Next: [][]int{{1}, {0}}, Ends: []bool{false, true}})
}

// TestT2WildAutomata: every digit on every track of every shape.
func TestT2WildAutomata(t *testing.T) {
	source := rand.New(rand.NewSource(5))
	eachShape(func(base, tracks, _ int) {
		for on := range tracks {
			for digit := range kinds(base) {
				for _, states := range []int{1, 2, 5, 20, api.MaxStates} {
					a := wild(source, base, tracks, states)
					was := clone(a)
					got := fix(t, a, on, digit)
					wantReads(t, "Fix", a, got, tracks-1, func(d []int) []int {
						return slices.Concat(d[:on], []int{digit}, d[on:])
					})
					wantFix(t, leastOf(t, a), on, digit, got)
					if !equal(a, was) {
						t.Fatalf("%v was written into", was)
					}
				}
			}
		}
	})
}

// TestT2SpreadAhead: a track that was laid beside and is left out again is as it was, whatever digit stands on it.
func TestT2SpreadAhead(t *testing.T) {
	source := rand.New(rand.NewSource(6))
	eachShape(func(base, tracks, _ int) {
		if tracks+1 >= len(letters[base]) {
			return
		}
		a := wild(source, base, tracks, 1+source.Intn(12))
		for on := range tracks + 1 {
			at := upTo(tracks + 1)
			at = slices.Delete(at, on, on+1)
			wide := spread(t, a, tracks+1, at...)
			for digit := range kinds(base) {
				wantFix(t, wide, on, digit, leastOf(t, a))
			}
		}
	})
}

// TestT2EitherFirst: of two digits on two tracks it is all the same which is fixed first.
func TestT2EitherFirst(t *testing.T) {
	source := rand.New(rand.NewSource(7))
	eachShape(func(base, tracks, _ int) {
		for on := range tracks {
			for behind := on + 1; behind < tracks; behind++ {
				a := wild(source, base, tracks, 1+source.Intn(12))
				x, y := source.Intn(kinds(base)), source.Intn(kinds(base))
				wantFix(t, fix(t, a, on, x), behind-1, y, fix(t, fix(t, a, behind, y), on, x))
			}
		}
	})
}

// TestT2Not: what is fixed of the words that are not taken is what is not taken of those that are fixed.
func TestT2Not(t *testing.T) {
	source := rand.New(rand.NewSource(8))
	a := wild(source, 3, 2, 15)
	no, err := pair.Not(a)
	if err != nil {
		t.Fatal(err)
	}
	for on := range 2 {
		for digit := range 3 {
			want, err := pair.Not(fix(t, a, on, digit))
			if err != nil {
				t.Fatal(err)
			}
			wantFix(t, no, on, digit, want)
		}
	}
}

// TestT2Wrong: there is no such track, or it is no digit.
func TestT2Wrong(t *testing.T) {
	eachShape(func(base, tracks, _ int) {
		a := still(base, tracks, 2)
		for _, on := range []int{math.MinInt, -1, tracks, tracks + 1, api.MaxTracks, math.MaxInt} {
			for _, digit := range []int{math.MinInt, -1, 0, 1, kinds(base), math.MaxInt} {
				wantNoFix(t, a, on, digit, api.ErrRange)
			}
		}
		for on := range tracks {
			for _, digit := range []int{math.MinInt, -1, kinds(base), kinds(base) + 1, math.MaxInt} {
				wantNoFix(t, a, on, digit, api.ErrRange)
			}
		}
	})
}

// TestT1T2WrongAutomata: chapter 3's Check, ahead of all else.
func TestT1T2WrongAutomata(t *testing.T) {
	for _, base := range []int{math.MinInt, -1, 0, api.MaxBase + 1, math.MaxInt} {
		wantWrong(t, api.Auto{Base: base, Tracks: 1, Next: [][]int{{0, 0}}, Ends: []bool{true}}, api.ErrRange)
	}
	for _, base := range bases {
		for _, tracks := range []int{math.MinInt, -1, api.MaxTracks + 1, math.MaxInt} {
			wantWrong(t, api.Auto{Base: base, Tracks: tracks, Next: [][]int{{0, 0}}, Ends: []bool{true}}, api.ErrRange)
		}
		for tracks := len(letters[base]); tracks <= api.MaxTracks; tracks++ {
			wantWrong(t, api.Auto{Base: base, Tracks: tracks}, api.ErrFull)
		}
	}
	wantWrong(t, api.Auto{}, api.ErrRange)
	eachShape(func(base, tracks, many int) {
		wantWrong(t, api.Auto{Base: base, Tracks: tracks}, api.ErrNone)
		wantWrong(t, api.Auto{Base: base, Tracks: tracks, Ends: []bool{true}}, api.ErrNone)
		wantWrong(t, still(base, tracks, api.MaxStates+1), api.ErrFull)
		for _, ends := range []int{0, 2, 4} {
			a := still(base, tracks, 3)
			a.Ends = make([]bool, ends)
			wantWrong(t, a, api.ErrShape)
		}
		for _, n := range []int{0, many - 1, many + 1} {
			a := still(base, tracks, 3)
			a.Next[2] = make([]int, n)
			wantWrong(t, a, api.ErrShape)
		}
		for _, next := range []int{math.MinInt, -1, 3, math.MaxInt} {
			a := still(base, tracks, 3)
			a.Next[2][many-1] = next
			wantWrong(t, a, api.ErrRange)
		}
	})
}

// TestT1T2BehindTheLength: what lies behind a list's length is neither read nor written.
func TestT1T2BehindTheLength(t *testing.T) {
	row := []int{1, 0, 99}
	next := [][]int{row[:2], {1, 1}, {-1}}
	ends := []bool{false, true, true}
	at := []int{0, 7, -7}
	a := api.Auto{Base: 2, Tracks: 1, Next: next[:2], Ends: ends[:2]}
	wantSpread(t, a, 1, at[:1], a)
	wantSpread(t, a, 2, at[:1], api.Auto{Base: 2, Tracks: 2, Next: [][]int{{1, 1, 0, 0}, {1, 1, 1, 1}}, Ends: ends[:2]})
	wantFix(t, a, 0, 0, api.Auto{Base: 2, Tracks: 0, Next: [][]int{{1}, {1}}, Ends: ends[:2]})
	if row[2] != 99 || len(next[2]) != 1 || next[2][0] != -1 || !ends[2] || at[1] != 7 || at[2] != -7 {
		t.Errorf("written into: %v %v %v %v", row, next, ends, at)
	}
}

// scribble writes into all memory of an automaton, list by list, also behind the lengths; no list of it shares any with another.
func scribble(t *testing.T, a api.Auto) {
	t.Helper()
	was := clone(a)
	for state, nexts := range a.Next {
		for i := range nexts[:cap(nexts)] {
			nexts[:cap(nexts)][i] = 77
		}
		for behind := state + 1; behind < len(a.Next); behind++ {
			if !slices.Equal(a.Next[behind], was.Next[behind]) {
				t.Fatalf("states %d and %d share memory", state, behind)
			}
		}
	}
	for i := range a.Next[:cap(a.Next)] {
		a.Next[:cap(a.Next)][i] = nil
	}
	for i := range a.Ends[:cap(a.Ends)] {
		a.Ends[:cap(a.Ends)][i] = !a.Ends[:cap(a.Ends)][i]
	}
}

// TestT1T2FreshMemory: what comes out is the caller's, also where it is like what was handed in.
func TestT1T2FreshMemory(t *testing.T) {
	a := leastOf(t, wild(rand.New(rand.NewSource(9)), 3, 2, 7))
	was := clone(a)
	at := []int{0, 1}
	scribble(t, spread(t, a, 2, at...))
	scribble(t, spread(t, a, 3, at...))
	for digit := range 3 {
		got := fix(t, a, 1, digit)
		want := clone(got)
		scribble(t, got)
		wantFix(t, a, 1, digit, want)
	}
	if !equal(a, was) || !slices.Equal(at, []int{0, 1}) {
		t.Errorf("%v shares memory with what is answered", was)
	}
}
