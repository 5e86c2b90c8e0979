package some_test

import (
	"math"
	"math/rand"
	"slices"
	"testing"

	"filbert/api"
	"filbert/auto"
	"filbert/least"
	"filbert/pair"
	"filbert/plain"
	"filbert/some"
	"filbert/track"
)

var bases = []int{api.Fib, 2, 3, 4, 5, api.MaxBase}

// letters: of each base, how many there are of so many tracks.
var letters = map[int][]int{
	api.Fib: {1, 2, 4, 8, 16, 32},
	2:       {1, 2, 4, 8, 16, 32},
	3:       {1, 3, 9, 27},
	4:       {1, 4, 16},
	5:       {1, 5, 25},
	6:       {1, 6, 36},
}

// eachShape calls f with every base and every count of tracks that go together.
func eachShape(f func(base, tracks, many int)) {
	for _, base := range bases {
		for tracks, many := range letters[base] {
			f(base, tracks, many)
		}
	}
}

// still: an automaton of so many states, none of which leads to another.
func still(base, tracks, states int) api.Auto {
	a := api.Auto{Base: base, Tracks: tracks, Ends: make([]bool, states)}
	for state := range states {
		a.Next = append(a.Next, slices.Repeat([]int{state}, letters[base][tracks]))
	}
	return a
}

// wild: an automaton of so many states that lead anywhere.
func wild(source *rand.Rand, base, tracks, states int) api.Auto {
	a := still(base, tracks, states)
	for state := range states {
		a.Ends[state] = source.Intn(2) == 0
		for x := range a.Next[state] {
			a.Next[state][x] = source.Intn(states)
		}
	}
	return a
}

func clone(a api.Auto) api.Auto {
	b := a
	b.Ends = slices.Clone(a.Ends)
	b.Next = nil
	for _, nexts := range a.Next {
		b.Next = append(b.Next, slices.Clone(nexts))
	}
	return b
}

func equal(a, b api.Auto) bool {
	return a.Base == b.Base && a.Tracks == b.Tracks && slices.Equal(a.Ends, b.Ends) && slices.EqualFunc(a.Next, b.Next, slices.Equal)
}

// empty: an automaton of which all is 0 or nil, as it comes with an error.
func empty(a api.Auto) bool {
	return a.Base == 0 && a.Tracks == 0 && a.Next == nil && a.Ends == nil
}

// kinds: how many digits there are.
func kinds(base int) int { return letters[base][1] }

// digits of a letter, the first track's counting most.
func digits(base, tracks, x int) []int {
	d := make([]int, tracks)
	for i := tracks - 1; i >= 0; i-- {
		d[i] = x % kinds(base)
		x /= kinds(base)
	}
	return d
}

// letterOf digits.
func letterOf(base int, d []int) int {
	x := 0
	for _, digit := range d {
		x = x*kinds(base) + digit
	}
	return x
}

func leastOf(t *testing.T, a api.Auto) api.Auto {
	t.Helper()
	got, err := least.Least(a)
	if err != nil {
		t.Fatalf("Least(%v): %v", a, err)
	}
	return got
}

func spread(t *testing.T, a api.Auto, tracks int, at ...int) api.Auto {
	t.Helper()
	got, err := track.Spread(a, tracks, at)
	if err != nil {
		t.Fatalf("Spread(%v, %d, %v): %v", a, tracks, at, err)
	}
	return got
}

func left(t *testing.T, a api.Auto, on int) api.Auto {
	t.Helper()
	got, err := some.Some(a, on)
	if err != nil {
		t.Fatalf("Some(%v, %d): %v", a, on, err)
	}
	return got
}

func closeUp(t *testing.T, a api.Auto) api.Auto {
	t.Helper()
	got, err := some.Close(a)
	if err != nil {
		t.Fatalf("Close(%v): %v", a, err)
	}
	return got
}

func wantSome(t *testing.T, a api.Auto, on int, want api.Auto) {
	t.Helper()
	if got := left(t, a, on); !equal(got, want) {
		t.Errorf("Some(%v, %d): got %v, want %v", a, on, got, want)
	}
}

func wantSets(t *testing.T, a api.Auto, on, want int) {
	t.Helper()
	if got, err := some.Sets(a, on); got != want || err != nil {
		t.Errorf("Sets(%v, %d): got %d %v, want %d", a, on, got, err, want)
	}
}

func wantClose(t *testing.T, a, want api.Auto) {
	t.Helper()
	if got := closeUp(t, a); !equal(got, want) {
		t.Errorf("Close(%v): got %v, want %v", a, got, want)
	}
}

func wantClosed(t *testing.T, a api.Auto, want bool) {
	t.Helper()
	if got, err := some.Closed(a); got != want || err != nil {
		t.Errorf("Closed(%v): got %v %v, want %v", a, got, err, want)
	}
}

func wantNoSome(t *testing.T, a api.Auto, on int, errno api.Errno) {
	t.Helper()
	if got, err := some.Some(a, on); !empty(got) || plain.Told(err) != errno {
		t.Errorf("Some(%v, %d): got %v %v, want %v", a, on, got, err, errno)
	}
}

func wantNoSets(t *testing.T, a api.Auto, on int, errno api.Errno) {
	t.Helper()
	if got, err := some.Sets(a, on); got != 0 || plain.Told(err) != errno {
		t.Errorf("Sets(%v, %d): got %d %v, want %v", a, on, got, err, errno)
	}
}

func wantNoClose(t *testing.T, a api.Auto, errno api.Errno) {
	t.Helper()
	if got, err := some.Close(a); !empty(got) || plain.Told(err) != errno {
		t.Errorf("Close(%v): got %v %v, want %v", a, got, err, errno)
	}
}

func wantNoClosed(t *testing.T, a api.Auto, errno api.Errno) {
	t.Helper()
	if got, err := some.Closed(a); got || plain.Told(err) != errno {
		t.Errorf("Closed(%v): got %v %v, want %v", a, got, err, errno)
	}
}

// wantWrong: what is wrong with an automaton is told ahead of all else.
func wantWrong(t *testing.T, a api.Auto, errno api.Errno) {
	t.Helper()
	for _, on := range []int{math.MinInt, -1, 0, 1, 4, 5, math.MaxInt} {
		wantNoSome(t, a, on, errno)
		wantNoSets(t, a, on, errno)
	}
	wantNoClose(t, a, errno)
	wantNoClosed(t, a, errno)
}

// set of states: those that are in it.
type set [api.MaxStates]bool

// nexts of a set, with any of these letters.
func nexts(a api.Auto, from set, by []int) set {
	var to set
	for state, in := range from {
		for _, x := range by {
			if in {
				to[a.Next[state][x]] = true
			}
		}
	}
	return to
}

// zeros: all states to which words of these letters lead.
func zeros(a api.Auto, by []int) set {
	var all set
	all[0] = true
	for range a.Next {
		for state, in := range nexts(a, all, by) {
			all[state] = all[state] || in
		}
	}
	return all
}

func ends(a api.Auto, s set) bool {
	for state, in := range s {
		if in && a.Ends[state] {
			return true
		}
	}
	return false
}

// lettersLeft: of each letter without this track, those that it is left of.
func lettersLeft(base, tracks, on int) [][]int {
	by := make([][]int, letters[base][tracks-1])
	for x := range letters[base][tracks] {
		d := digits(base, tracks, x)
		y := letterOf(base, slices.Concat(d[:on], d[on+1:]))
		by[y] = append(by[y], x)
	}
	return by
}

// alone: each letter by itself.
func alone(base, tracks int) [][]int {
	var by [][]int
	for x := range letters[base][tracks] {
		by = append(by, []int{x})
	}
	return by
}

// comeUp: how many sets come up of the first one, by all letters.
func comeUp(a api.Auto, by [][]int) int {
	start := zeros(a, by[0])
	met := map[set]bool{start: true}
	for waiting := []set{start}; len(waiting) > 0; waiting = waiting[1:] {
		for x := range by {
			to := nexts(a, waiting[0], by[x])
			if !met[to] {
				met[to] = true
				waiting = append(waiting, to)
			}
		}
	}
	return len(met)
}

// wantRuns: got is the least automaton, with so many tracks, that takes a word if a set with an end comes of it, found by running both along all words, side by side; stays tells whether 0s at the beginning leave the set as it is.
func wantRuns(t *testing.T, name string, a, got api.Auto, tracks int, by [][]int, stays bool) {
	t.Helper()
	if err := auto.Check(got); err != nil || got.Base != a.Base || got.Tracks != tracks {
		t.Fatalf("%s(%v): got %v, which is wrong: %v", name, a, got, err)
	}
	if !equal(got, leastOf(t, got)) {
		t.Fatalf("%s(%v): got %v, which is not the least", name, a, got)
	}
	type spot struct {
		of        set
		at        int
		onlyZeros bool
	}
	start := spot{zeros(a, by[0]), 0, true}
	met := map[spot]bool{start: true}
	for waiting := []spot{start}; len(waiting) > 0; waiting = waiting[1:] {
		now := waiting[0]
		if ends(a, now.of) != got.Ends[now.at] {
			t.Fatalf("%s(%v): got %v, which takes other words", name, a, got)
		}
		for x := range by {
			to := spot{nexts(a, now.of, by[x]), got.Next[now.at][x], now.onlyZeros && x == 0}
			if stays && to.onlyZeros {
				to.of = now.of
			}
			if !met[to] {
				met[to] = true
				waiting = append(waiting, to)
			}
		}
	}
}

// eachWord calls f with all words of so many kinds of letters, up to so long.
func eachWord(many, long int, f func(w []int)) {
	var from func(w []int)
	from = func(w []int) {
		f(w)
		if len(w) < long {
			for x := range many {
				from(append(slices.Clone(w), x))
			}
		}
	}
	from(nil)
}

func takes(t *testing.T, a api.Auto, w []int) bool {
	t.Helper()
	ok, err := auto.Takes(a, w)
	if err != nil {
		t.Fatalf("Takes(%v, %v): %v", a, w, err)
	}
	return ok
}

// text: a word as the key of a map.
func text(w []int) string {
	b := []byte{}
	for _, x := range w {
		b = append(b, byte(x))
	}
	return string(b)
}

// all words are taken, or none is.
func all(base, tracks int, ends bool) api.Auto {
	a := still(base, tracks, 1)
	a.Ends[0] = ends
	return a
}

// same: of two tracks, both are the same; odd: an odd count of 1s; first: the first 1 stands on the first track alone.
var (
	same  = api.Auto{Base: 2, Tracks: 2, Next: [][]int{{0, 1, 1, 0}, {1, 1, 1, 1}}, Ends: []bool{true, false}}
	odd   = api.Auto{Base: 2, Tracks: 1, Next: [][]int{{0, 1}, {1, 0}}, Ends: []bool{false, true}}
	first = api.Auto{Base: 2, Tracks: 2, Next: [][]int{{0, 1, 2, 1}, {1, 1, 1, 1}, {2, 2, 2, 2}}, Ends: []bool{false, false, true}}
	// just1 takes the word 1 alone.
	just1 = api.Auto{Base: 2, Tracks: 1, Next: [][]int{{1, 2}, {1, 1}, {1, 1}}, Ends: []bool{false, false, true}}
)

func TestS1Examples(t *testing.T) {
	wantSome(t, same, 0, all(2, 1, true))
	wantSome(t, same, 1, all(2, 1, true))
	wantSets(t, same, 0, 1)
	wantSets(t, same, 1, 1)
	// Whatever has a 1 is more than some number; and each number is less than some, which may be longer.
	wantSome(t, first, 1, api.Auto{Base: 2, Tracks: 1, Next: [][]int{{0, 1}, {1, 1}}, Ends: []bool{false, true}})
	wantSome(t, first, 0, all(2, 1, true))
	wantSets(t, first, 1, 2)
	wantSets(t, first, 0, 2)
	// With the only track left out, some word of each length, or a longer one, has an odd count of 1s.
	wantSome(t, odd, 0, all(2, 0, true))
	wantSets(t, odd, 0, 1)
	// The one word that is taken is a letter long: so none is longer.
	wantSome(t, just1, 0, api.Auto{Base: 2, Tracks: 0, Next: [][]int{{1}, {2}, {2}}, Ends: []bool{true, true, false}})
	wantSets(t, just1, 0, 3)
	wantNoSome(t, odd, 1, api.ErrRange)
	wantNoSets(t, odd, 1, api.ErrRange)
}

// TestS1Longer: 0s are left out ahead, of which the track has no 0s, but no others, and none is laid ahead.
func TestS1Longer(t *testing.T) {
	// Takes just the word that has 0 0 1 on the first track and 1 0 0 on the second one.
	a := still(2, 2, 5)
	a.Ends[3] = true
	for state := range 4 {
		a.Next[state] = []int{4, 4, 4, 4}
	}
	a.Next[0][1], a.Next[1][0], a.Next[2][2] = 1, 2, 3
	got := left(t, a, 1)
	eachWord(2, 5, func(w []int) {
		want := slices.Equal(w, []int{1}) || slices.Equal(w, []int{0, 1}) || slices.Equal(w, []int{0, 0, 1})
		if takes(t, got, w) != want {
			t.Errorf("Some: %v: got %v, want %v", w, !want, want)
		}
	})
	got = left(t, a, 0)
	eachWord(2, 5, func(w []int) {
		want := slices.Equal(w, []int{1, 0, 0})
		if takes(t, got, w) != want {
			t.Errorf("Some: %v: got %v, want %v", w, !want, want)
		}
	})
}

// TestS1AllWords: a short word is taken just if it is left of one that is taken and long enough to have met all states ahead of it.
func TestS1AllWords(t *testing.T) {
	source := rand.New(rand.NewSource(1))
	for _, base := range bases {
		for tracks := 1; tracks <= 2; tracks++ {
			for range 6 {
				a := wild(source, base, tracks, 1+source.Intn(2))
				for on := range tracks {
					wantLeft(t, a, on)
				}
			}
		}
	}
	for range 20 {
		wantLeft(t, wild(source, 2, 2, 4), source.Intn(2))
		wantLeft(t, wild(source, api.Fib, 1, 6), 0)
	}
}

// wantLeft: one that was found by going through all words, one by one.
func wantLeft(t *testing.T, a api.Auto, on int) {
	t.Helper()
	const long = 2
	is := map[string]bool{}
	eachWord(len(a.Next[0]), long+len(a.Next)-1, func(w []int) {
		if !takes(t, a, w) {
			return
		}
		rest := []int{}
		for _, x := range w {
			d := digits(a.Base, a.Tracks, x)
			rest = append(rest, letterOf(a.Base, slices.Concat(d[:on], d[on+1:])))
		}
		is[text(rest)] = true
		for len(rest) > 0 && rest[0] == 0 {
			rest = rest[1:]
			is[text(rest)] = true
		}
	})
	got := left(t, a, on)
	eachWord(len(got.Next[0]), long, func(w []int) {
		if takes(t, got, w) != is[text(w)] {
			t.Fatalf("Some(%v, %d): %v: got %v, want %v", a, on, w, !is[text(w)], is[text(w)])
		}
	})
}

// TestS1WildAutomata: every track of every shape.
func TestS1WildAutomata(t *testing.T) {
	source := rand.New(rand.NewSource(2))
	eachShape(func(base, tracks, _ int) {
		for on := range tracks {
			for _, states := range []int{1, 2, 3, 4, 5, 6} {
				a := wild(source, base, tracks, states)
				was := clone(a)
				by := lettersLeft(base, tracks, on)
				wantRuns(t, "Some", a, left(t, a, on), tracks-1, by, false)
				wantSets(t, a, on, comeUp(leastOf(t, a), by))
				wantSome(t, leastOf(t, a), on, left(t, a, on))
				if !equal(a, was) {
					t.Fatalf("%v was written into", was)
				}
			}
		}
	})
}

// TestS1NarrowAutomata: those in which letters often stay, so that more sets come up than of wild ones.
func TestS1NarrowAutomata(t *testing.T) {
	source := rand.New(rand.NewSource(3))
	most := 0
	for range 60 {
		base := bases[source.Intn(len(bases))]
		tracks := 1 + source.Intn(2)
		a := still(base, tracks, 10)
		for state := range a.Next {
			a.Ends[state] = source.Intn(4) == 0
			for x := range a.Next[state] {
				if source.Intn(kinds(base)) == 0 {
					a.Next[state][x] = source.Intn(10)
				}
			}
		}
		on := source.Intn(tracks)
		by := lettersLeft(base, tracks, on)
		sets := comeUp(leastOf(t, a), by)
		wantSets(t, a, on, sets)
		most = max(most, sets)
		if got, err := some.Some(a, on); err == nil {
			wantRuns(t, "Some", a, got, tracks-1, by, false)
		} else if plain.Told(err) != api.ErrFull || sets <= api.MaxStates {
			t.Fatalf("Some(%v, %d): %v", a, on, err)
		}
	}
	if most < 20 {
		t.Errorf("%d sets came up at most", most)
	}
}

// TestS1SpreadAhead: a track that was laid beside and is left out again is as it was, if 0s ahead do not matter; else, 0s are left out ahead.
func TestS1SpreadAhead(t *testing.T) {
	source := rand.New(rand.NewSource(4))
	eachShape(func(base, tracks, _ int) {
		if tracks+1 >= len(letters[base]) {
			return
		}
		for on := range tracks + 1 {
			var at []int
			for i := range tracks + 1 {
				if i != on {
					at = append(at, i)
				}
			}
			a := wild(source, base, tracks, 6)
			got := left(t, spread(t, a, tracks+1, at...), on)
			wantRuns(t, "Some", a, got, tracks, alone(base, tracks), false)
			a.Next[0][0] = 0
			wantSome(t, spread(t, a, tracks+1, at...), on, leastOf(t, a))
		}
	})
}

// TestS1EitherFirst: of two tracks it is all the same which is left out first.
func TestS1EitherFirst(t *testing.T) {
	source := rand.New(rand.NewSource(5))
	eachShape(func(base, tracks, _ int) {
		for on := range tracks {
			for behind := on + 1; behind < tracks; behind++ {
				// Of so few states there are few sets, and of these few again.
				a := wild(source, base, tracks, 3)
				wantSome(t, left(t, a, on), behind-1, left(t, left(t, a, behind), on))
			}
		}
	})
}

// TestS1Either: what is left of the words of one or another is left of the one or of the other.
func TestS1Either(t *testing.T) {
	source := rand.New(rand.NewSource(6))
	const either = 14
	for range 30 {
		a, b := wild(source, 2, 2, 4), wild(source, 2, 2, 4)
		both, err := pair.Both(a, b, either)
		if err != nil {
			t.Fatal(err)
		}
		want, err := pair.Both(left(t, a, 1), left(t, b, 1), either)
		if err != nil {
			t.Fatal(err)
		}
		wantSome(t, both, 1, want)
	}
}

// TestS1LeastInItsPlace: sets of states that need not be told apart are not told apart.
func TestS1LeastInItsPlace(t *testing.T) {
	a := wheels(gears{wheels: []int{3, 5, 7, 19}, chain: 5})
	for state := range a.Ends {
		a.Ends[state] = true
	}
	wantSets(t, spread(t, a, 2, 0), 1, 1)
	wide := clone(a)
	wide.Tracks = 2
	for state := range wide.Next {
		wide.Next[state] = nil
		for x := range 9 {
			wide.Next[state] = append(wide.Next[state], a.Next[state][x/3])
		}
	}
	if got := comeUp(wide, lettersLeft(3, 2, 1)); got != api.MaxSets+1 {
		t.Fatalf("%d sets come up of what is not the least", got)
	}
	wantSets(t, wide, 1, 1)
	wantSome(t, wide, 1, all(3, 1, true))
	wantClose(t, a, all(3, 1, true))
}

// gears: how wheels are built.
type gears struct {
	wheels []int // so many states round and round, each
	chain  int   // so many states behind letter 2, one behind the other
	lamp   bool  // one state more that always stands at an end
	ahead  bool  // one state more at the beginning, from which a 0 leads to where it else begins
}

// wheels: an automaton of base 3 that has a state for each wheel, in a ring by letter 0. From there letter 1 leads onto its wheel, and goes round on it, and letter 0 stays there; letter 2 leads to the chain. So of the ring come as many sets as the wheels stand in different ways; and one for each state of the chain, and the ring itself.
func wheels(g gears) api.Auto {
	spokes := len(g.wheels)
	if g.lamp {
		spokes++
	}
	ring := 0
	if g.ahead {
		ring = 1
	}
	many := ring + spokes + g.chain
	for _, n := range g.wheels {
		many += n
	}
	if g.lamp {
		many++
	}
	a := still(3, 1, many)
	chain := many - g.chain
	at := ring + spokes
	for i, n := range g.wheels {
		a.Next[ring+i] = []int{ring + (i+1)%spokes, at, chain}
		a.Ends[ring+i] = true
		for k := range n {
			a.Next[at+k] = []int{at + k, at + (k+1)%n, chain}
		}
		a.Ends[at] = true
		at += n
	}
	if g.lamp {
		a.Next[ring+spokes-1] = []int{ring, at, at}
		a.Ends[ring+spokes-1], a.Ends[at] = true, true
	}
	for state := chain; state < many; state++ {
		to := min(state+1, many-1)
		a.Next[state] = []int{to, to, to}
	}
	a.Ends[many-1] = true
	if g.ahead {
		a.Next[0] = []int{1, a.Next[1][1], a.Next[1][2]}
	}
	return a
}

// TestS1S2MaxSets: so many sets may come up, but not one more, whatever would come of them.
func TestS1S2MaxSets(t *testing.T) {
	for _, c := range []struct {
		gears gears
		sets  int
	}{
		{gears{wheels: []int{3, 5, 7, 19}, chain: 3, lamp: true}, api.MaxSets - 1},
		{gears{wheels: []int{3, 5, 7, 19}, chain: 4, lamp: true}, api.MaxSets},
		{gears{wheels: []int{3, 5, 7, 19}, chain: 5, lamp: true}, api.MaxSets + 1},
		{gears{wheels: []int{5, 7, 9, 13}, chain: 1, lamp: true}, 5*7*9*13 + 2},
		{gears{wheels: []int{8, 9, 11, 13}, chain: 1, lamp: true}, 8*9*11*13 + 2},
	} {
		a := wheels(c.gears)
		if got := comeUp(leastOf(t, a), alone(3, 1)); got != c.sets {
			t.Fatalf("%v: %d sets", c.gears, got)
		}
		for on := range 2 {
			b := spread(t, a, 2, 1-on)
			if c.sets > api.MaxSets {
				wantNoSets(t, b, on, api.ErrFull)
				wantNoSome(t, b, on, api.ErrFull)
			} else {
				wantSets(t, b, on, c.sets)
				wantSome(t, b, on, all(3, 1, true))
			}
		}
		if c.sets > api.MaxSets {
			wantNoClose(t, a, api.ErrFull)
		} else {
			wantClose(t, a, all(3, 1, true))
		}
	}
}

// TestS1S2MaxStates: what comes of the sets may have so many states, but not one more; how many sets there are is told in any case.
func TestS1S2MaxStates(t *testing.T) {
	for _, c := range []struct {
		gears gears
		sets  int
	}{
		{gears{wheels: []int{7, 11}, chain: 1}, api.MaxStates - 1},
		{gears{wheels: []int{7, 11}, chain: 2}, api.MaxStates},
		{gears{wheels: []int{7, 11}, chain: 3}, api.MaxStates + 1},
		{gears{wheels: []int{3, 5, 7, 19}, chain: 4}, api.MaxSets},
	} {
		a := wheels(c.gears)
		b := spread(t, a, 2, 0)
		wantSets(t, b, 1, c.sets)
		if c.sets > api.MaxStates {
			wantNoSome(t, b, 1, api.ErrFull)
			wantNoClose(t, a, api.ErrFull)
			continue
		}
		got := left(t, b, 1)
		wantRuns(t, "Some", a, got, 1, alone(3, 1), false)
		if len(got.Next) != c.sets {
			t.Errorf("%v: %d states", c.gears, len(got.Next))
		}
		wantClose(t, a, got)
	}
}

// TestS2AllLettersCount: the set to which a 0 leads at the beginning counts among the sets that come up, though Close has no need of it.
func TestS2AllLettersCount(t *testing.T) {
	for chain := 2; chain <= 5; chain++ {
		a := wheels(gears{wheels: []int{3, 5, 7, 19}, chain: chain, lamp: true, ahead: true})
		a.Ends[0] = true
		sets := comeUp(leastOf(t, a), alone(3, 1))
		if sets != 3*5*7*19+2+chain {
			t.Fatalf("%d: %d sets", chain, sets)
		}
		if sets > api.MaxSets {
			wantNoClose(t, a, api.ErrFull)
		} else {
			wantClose(t, a, all(3, 1, true))
		}
	}
}

func TestS2Examples(t *testing.T) {
	wantClose(t, just1, api.Auto{Base: 2, Tracks: 1, Next: [][]int{{0, 1}, {2, 2}, {2, 2}}, Ends: []bool{false, true, false}})
	wantClosed(t, just1, false)
	wantClosed(t, same, true)
	wantClosed(t, odd, true)
	wantClosed(t, first, true)
	wantClose(t, same, same)
	wantClose(t, odd, odd)
	wantClose(t, first, first)
	// Takes 1 with two 0s ahead, alone: then without them, too, and with more.
	a := api.Auto{Base: 2, Tracks: 1, Next: [][]int{{1, 4}, {2, 4}, {4, 3}, {4, 4}, {4, 4}}, Ends: []bool{false, false, false, true, false}}
	wantClose(t, a, closeUp(t, just1))
	wantClosed(t, a, false)
	// Takes 0s alone, if they are three: then any, and none.
	a.Ends, a.Next[2] = []bool{false, false, false, true, false}, []int{3, 4}
	wantClose(t, a, api.Auto{Base: 2, Tracks: 1, Next: [][]int{{0, 1}, {1, 1}}, Ends: []bool{true, false}})
}

// TestS2NotOnlyAtTheBeginning: 0s behind another letter do matter, also where that letter leads back to the first set.
func TestS2NotOnlyAtTheBeginning(t *testing.T) {
	// From states 0 and 1, letter 0 leads to 1, and letter 1 changes them: so both make the first set, 1 leads back to it, and 0 to state 1 alone.
	a := api.Auto{Base: 2, Tracks: 1, Next: [][]int{{1, 1}, {1, 0}}, Ends: []bool{true, false}}
	got := closeUp(t, a)
	wantRuns(t, "Close", a, got, 1, alone(2, 1), true)
	for _, c := range []struct {
		w    []int
		want bool
	}{
		{nil, true}, {[]int{0}, true}, {[]int{0, 0}, true}, {[]int{1}, true}, {[]int{0, 1}, true},
		{[]int{1, 0}, false}, {[]int{0, 1, 0}, false}, {[]int{0, 0, 1, 0, 0}, false}, {[]int{1, 0, 1}, true}, {[]int{1, 1}, true},
	} {
		if takes(t, got, c.w) != c.want {
			t.Errorf("Close(%v): %v: got %v, want %v", a, c.w, !c.want, c.want)
		}
	}
	// Of Some, 0s are left out ahead, but none is laid there.
	if takes(t, left(t, spread(t, a, 2, 0), 1), []int{0}) {
		t.Errorf("Some: a 0 was laid ahead")
	}
}

// TestS2AllWords: a short word is taken just if it is so of one that is taken, with other 0s ahead.
func TestS2AllWords(t *testing.T) {
	source := rand.New(rand.NewSource(7))
	eachShape(func(base, tracks, many int) {
		for range 8 {
			a := wild(source, base, tracks, 1+source.Intn(5))
			got := closeUp(t, a)
			long := 3
			if many > 9 {
				long = 2
			}
			eachWord(many, long, func(w []int) {
				v := w
				for len(v) > 0 && v[0] == 0 {
					v = v[1:]
				}
				want := false
				for n := range len(a.Next) {
					want = want || takes(t, a, append(make([]int, n), v...))
				}
				if takes(t, got, w) != want {
					t.Fatalf("Close(%v): %v: got %v, want %v", a, w, !want, want)
				}
			})
		}
	})
}

// TestS2WildAutomata: what is closed up is closed, and closed up again as it is; what is closed is so already.
func TestS2WildAutomata(t *testing.T) {
	source := rand.New(rand.NewSource(8))
	closed := 0
	eachShape(func(base, tracks, _ int) {
		for _, states := range []int{1, 2, 3, 4, 5, 6} {
			a := wild(source, base, tracks, states)
			was := clone(a)
			got := closeUp(t, a)
			wantRuns(t, "Close", a, got, tracks, alone(base, tracks), true)
			wantClose(t, leastOf(t, a), got)
			wantClosed(t, got, true)
			wantClose(t, got, got)
			is := true
			met := map[[2]int]bool{}
			for waiting := [][2]int{{0, a.Next[0][0]}}; len(waiting) > 0; waiting = waiting[1:] {
				at := waiting[0]
				is = is && a.Ends[at[0]] == a.Ends[at[1]]
				for x := range a.Next[0] {
					to := [2]int{a.Next[at[0]][x], a.Next[at[1]][x]}
					if !met[to] {
						met[to] = true
						waiting = append(waiting, to)
					}
				}
			}
			wantClosed(t, a, is)
			if is {
				closed++
				wantClose(t, a, leastOf(t, a))
			}
			if !equal(a, was) {
				t.Fatalf("%v was written into", was)
			}
		}
	})
	if closed == 0 {
		t.Errorf("none was closed")
	}
}

// TestS2ClosedFarApart: a 0 may lead to another state from which the same words are taken; and it may take many letters to tell that they are not.
func TestS2ClosedFarApart(t *testing.T) {
	// States 0 and 1 are the same, seen from outside; the others are met by no word.
	a := still(2, 1, 4)
	a.Next[0], a.Next[1] = []int{1, 0}, []int{0, 1}
	a.Ends = []bool{true, true, false, false}
	wantClosed(t, a, true)
	wantClose(t, a, all(2, 1, true))
	a.Ends[1] = false
	wantClosed(t, a, false)
	// Two chains, of which the second one, behind a 0, is a letter longer.
	b := still(2, 1, api.MaxStates)
	for state := range b.Next {
		b.Next[state] = []int{0, 0}
		to := min(state+2, api.MaxStates-1)
		b.Next[state] = []int{to, to}
	}
	b.Next[0] = []int{1, 2}
	b.Ends[api.MaxStates-1] = true
	wantClosed(t, b, false)
}

// TestS1S2ManyStates: as many as may be, of which not many sets come.
func TestS1S2ManyStates(t *testing.T) {
	eachShape(func(base, tracks, many int) {
		// Counts letters up to the last state, and stays there.
		a := still(base, tracks, api.MaxStates)
		for state := range a.Next {
			for x := range many {
				a.Next[state][x] = min(state+1, api.MaxStates-1)
			}
		}
		a.Ends[api.MaxStates-1] = true
		wantClosed(t, a, false)
		wantClose(t, a, all(base, tracks, true))
		for on := range tracks {
			wantSome(t, a, on, all(base, tracks-1, true))
			wantSets(t, a, on, api.MaxStates)
		}
		// And the other way round, where all words are taken that are not so long.
		for state := range a.Ends {
			a.Ends[state] = state < api.MaxStates-1
		}
		wantClosed(t, a, false)
		for on := range tracks {
			wantSome(t, a, on, leastOf(t, spread(t, shorter(base), tracks-1)))
		}
	})
}

// shorter takes words of no tracks that are shorter than the greatest count of states, less one.
func shorter(base int) api.Auto {
	a := still(base, 0, api.MaxStates)
	for state := range a.Next {
		a.Next[state][0] = min(state+1, api.MaxStates-1)
		a.Ends[state] = state < api.MaxStates-1
	}
	return a
}

// TestS1LettersWithout: which letters are left as which.
func TestS1LettersWithout(t *testing.T) {
	for _, c := range []struct {
		base, tracks, track int
		want                [][]int
	}{
		{2, 1, 0, [][]int{{0, 1}}},
		{6, 1, 0, [][]int{{0, 1, 2, 3, 4, 5}}},
		{3, 2, 0, [][]int{{0, 3, 6}, {1, 4, 7}, {2, 5, 8}}},
		{3, 2, 1, [][]int{{0, 1, 2}, {3, 4, 5}, {6, 7, 8}}},
		{api.Fib, 3, 1, [][]int{{0, 2}, {1, 3}, {4, 6}, {5, 7}}},
	} {
		got, err := some.LettersWithout(c.base, c.tracks, c.track)
		if err != nil || !slices.EqualFunc(got, c.want, slices.Equal) {
			t.Errorf("LettersWithout(%d, %d, %d): got %v %v, want %v", c.base, c.tracks, c.track, got, err, c.want)
		}
	}
	for _, c := range []struct {
		base, tracks, track int
		errno               api.Errno
	}{
		{0, 1, 0, api.ErrRange}, {api.MaxBase + 1, 1, 0, api.ErrRange}, {2, -1, 0, api.ErrRange}, {2, api.MaxTracks + 1, 0, api.ErrRange},
		{6, 3, 3, api.ErrFull}, {2, 0, 0, api.ErrRange}, {2, 2, -1, api.ErrRange}, {2, 2, 2, api.ErrRange},
		{2, 2, math.MinInt, api.ErrRange}, {2, 2, math.MaxInt, api.ErrRange},
	} {
		got, err := some.LettersWithout(c.base, c.tracks, c.track)
		if got != nil || plain.Told(err) != c.errno {
			t.Errorf("LettersWithout(%d, %d, %d): got %v %v, want %v", c.base, c.tracks, c.track, got, err, c.errno)
		}
	}
}

// TestS1NoSuchTrack: ahead of too many sets, too.
func TestS1NoSuchTrack(t *testing.T) {
	eachShape(func(base, tracks, _ int) {
		a := still(base, tracks, 2)
		for _, on := range []int{math.MinInt, -1, tracks, tracks + 1, api.MaxTracks, math.MaxInt} {
			wantNoSome(t, a, on, api.ErrRange)
			wantNoSets(t, a, on, api.ErrRange)
		}
	})
	full := spread(t, wheels(gears{wheels: []int{5, 7, 9, 13}, chain: 1}), 2, 0)
	wantNoSome(t, full, 2, api.ErrRange)
	wantNoSets(t, full, -1, api.ErrRange)
}

// TestS1S2WrongAutomata: chapter 3's Check, ahead of all else.
func TestS1S2WrongAutomata(t *testing.T) {
	for _, base := range []int{math.MinInt, -1, 0, api.MaxBase + 1, math.MaxInt} {
		wantWrong(t, api.Auto{Base: base, Tracks: 1, Next: [][]int{{0, 0}}, Ends: []bool{true}}, api.ErrRange)
	}
	for _, base := range bases {
		for _, tracks := range []int{math.MinInt, -1, api.MaxTracks + 1, math.MaxInt} {
			wantWrong(t, api.Auto{Base: base, Tracks: tracks, Next: [][]int{{0, 0}}, Ends: []bool{true}}, api.ErrRange)
		}
		for tracks := len(letters[base]); tracks <= api.MaxTracks; tracks++ {
			wantWrong(t, api.Auto{Base: base, Tracks: tracks}, api.ErrFull)
		}
	}
	wantWrong(t, api.Auto{}, api.ErrRange)
	eachShape(func(base, tracks, many int) {
		wantWrong(t, api.Auto{Base: base, Tracks: tracks}, api.ErrNone)
		wantWrong(t, api.Auto{Base: base, Tracks: tracks, Ends: []bool{true}}, api.ErrNone)
		wantWrong(t, still(base, tracks, api.MaxStates+1), api.ErrFull)
		for _, ends := range []int{0, 2, 4} {
			a := still(base, tracks, 3)
			a.Ends = make([]bool, ends)
			wantWrong(t, a, api.ErrShape)
		}
		for _, n := range []int{0, many - 1, many + 1} {
			a := still(base, tracks, 3)
			a.Next[2] = make([]int, n)
			wantWrong(t, a, api.ErrShape)
		}
		for _, next := range []int{math.MinInt, -1, 3, math.MaxInt} {
			a := still(base, tracks, 3)
			a.Next[2][many-1] = next
			wantWrong(t, a, api.ErrRange)
		}
	})
}

// TestS1S2BehindTheLength: what lies behind a list's length is neither read nor written.
func TestS1S2BehindTheLength(t *testing.T) {
	row := []int{1, 0, 99}
	next := [][]int{row[:2], {1, 1}, {-1}}
	ends := []bool{false, true, true}
	a := api.Auto{Base: 2, Tracks: 1, Next: next[:2], Ends: ends[:2]}
	wantSome(t, a, 0, all(2, 0, true))
	wantSets(t, a, 0, 1)
	wantClose(t, a, all(2, 1, true))
	wantClosed(t, a, false)
	if row[2] != 99 || len(next[2]) != 1 || next[2][0] != -1 || !ends[2] {
		t.Errorf("written into: %v %v %v", row, next, ends)
	}
}

// scribble writes into all memory of an automaton, list by list, also behind the lengths; no list of it shares any with another.
func scribble(t *testing.T, a api.Auto) {
	t.Helper()
	was := clone(a)
	for state, nexts := range a.Next {
		for i := range nexts[:cap(nexts)] {
			nexts[:cap(nexts)][i] = 77
		}
		for behind := state + 1; behind < len(a.Next); behind++ {
			if !slices.Equal(a.Next[behind], was.Next[behind]) {
				t.Fatalf("states %d and %d share memory", state, behind)
			}
		}
	}
	for i := range a.Next[:cap(a.Next)] {
		a.Next[:cap(a.Next)][i] = nil
	}
	for i := range a.Ends[:cap(a.Ends)] {
		a.Ends[:cap(a.Ends)][i] = !a.Ends[:cap(a.Ends)][i]
	}
}

// TestS1S2FreshMemory: what comes out is the caller's, also where it is like what was handed in.
func TestS1S2FreshMemory(t *testing.T) {
	a := closeUp(t, wild(rand.New(rand.NewSource(9)), 3, 2, 5))
	was := clone(a)
	for range 2 {
		got := closeUp(t, a)
		if !equal(got, was) {
			t.Fatalf("Close(%v): got %v", was, got)
		}
		scribble(t, got)
		got = left(t, a, 1)
		want := clone(got)
		scribble(t, got)
		wantSome(t, a, 1, want)
	}
	if !equal(a, was) {
		t.Errorf("%v shares memory with what is answered", was)
	}
}
