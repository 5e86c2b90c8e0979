package right_test

import (
	"math"
	"math/rand"
	"slices"
	"testing"

	"filbert/api"
	"filbert/auto"
	"filbert/least"
	"filbert/letter"
	"filbert/pair"
	"filbert/plain"
	"filbert/right"
	"filbert/track"
	"filbert/turn"
)

var bases = []int{api.Fib, 2, 3, 4, 5, api.MaxBase}

// letters: of each base, how many there are of so many tracks.
var letters = map[int][]int{
	api.Fib: {1, 2, 4, 8, 16, 32},
	2:       {1, 2, 4, 8, 16, 32},
	3:       {1, 3, 9, 27},
	4:       {1, 4, 16},
	5:       {1, 5, 25},
	6:       {1, 6, 36},
}

// eachShape calls f with every base and every count of tracks that go together.
func eachShape(f func(base, tracks, many int)) {
	for _, base := range bases {
		for tracks, many := range letters[base] {
			f(base, tracks, many)
		}
	}
}

// still: an automaton of so many states, none of which leads to another.
func still(base, tracks, states int) api.Auto {
	a := api.Auto{Base: base, Tracks: tracks, Ends: make([]bool, states)}
	for state := range states {
		a.Next = append(a.Next, slices.Repeat([]int{state}, letters[base][tracks]))
	}
	return a
}

// wild: an automaton of so many states that lead anywhere.
func wild(source *rand.Rand, base, tracks, states int) api.Auto {
	a := still(base, tracks, states)
	for state := range states {
		a.Ends[state] = source.Intn(2) == 0
		for x := range a.Next[state] {
			a.Next[state][x] = source.Intn(states)
		}
	}
	return a
}

// every word is taken, or none is, whether right or not.
func every(base, tracks int, ends bool) api.Auto {
	a := still(base, tracks, 1)
	a.Ends[0] = ends
	return a
}

func clone(a api.Auto) api.Auto {
	b := a
	b.Ends = slices.Clone(a.Ends)
	b.Next = nil
	for _, nexts := range a.Next {
		b.Next = append(b.Next, slices.Clone(nexts))
	}
	return b
}

func equal(a, b api.Auto) bool {
	return a.Base == b.Base && a.Tracks == b.Tracks && slices.Equal(a.Ends, b.Ends) && slices.EqualFunc(a.Next, b.Next, slices.Equal)
}

// empty: an automaton of which all is 0 or nil, as it comes with an error.
func empty(a api.Auto) bool {
	return a.Base == 0 && a.Tracks == 0 && a.Next == nil && a.Ends == nil
}

// must have come without an error.
func must(t *testing.T) func(a api.Auto, err error) api.Auto {
	return func(a api.Auto, err error) api.Auto {
		t.Helper()
		if err != nil {
			t.Fatal(err)
		}
		return a
	}
}

func all(t *testing.T, base, tracks int) api.Auto {
	t.Helper()
	got, err := right.All(base, tracks)
	if err != nil {
		t.Fatalf("All(%d, %d): %v", base, tracks, err)
	}
	return got
}

func only(t *testing.T, a api.Auto) api.Auto {
	t.Helper()
	got, err := right.Only(a)
	if err != nil {
		t.Fatalf("Only(%v): %v", a, err)
	}
	return got
}

func flip(t *testing.T, a api.Auto) api.Auto {
	t.Helper()
	got, err := right.Flip(a)
	if err != nil {
		t.Fatalf("Flip(%v): %v", a, err)
	}
	return got
}

func wantAll(t *testing.T, base, tracks int, want api.Auto) {
	t.Helper()
	if got := all(t, base, tracks); !equal(got, want) {
		t.Errorf("All(%d, %d): got %v, want %v", base, tracks, got, want)
	}
}

func wantOnly(t *testing.T, a, want api.Auto) {
	t.Helper()
	if got := only(t, a); !equal(got, want) {
		t.Errorf("Only(%v): got %v, want %v", a, got, want)
	}
}

func wantFlip(t *testing.T, a, want api.Auto) {
	t.Helper()
	if got := flip(t, a); !equal(got, want) {
		t.Errorf("Flip(%v): got %v, want %v", a, got, want)
	}
}

func wantNoAll(t *testing.T, base, tracks int, errno api.Errno) {
	t.Helper()
	if got, err := right.All(base, tracks); !empty(got) || plain.Told(err) != errno {
		t.Errorf("All(%d, %d): got %v %v, want %v", base, tracks, got, err, errno)
	}
}

func wantNoOnly(t *testing.T, a api.Auto, errno api.Errno) {
	t.Helper()
	if got, err := right.Only(a); !empty(got) || plain.Told(err) != errno {
		t.Errorf("Only(%v): got %v %v, want %v", a, got, err, errno)
	}
}

func wantNoFlip(t *testing.T, a api.Auto, errno api.Errno) {
	t.Helper()
	if got, err := right.Flip(a); !empty(got) || plain.Told(err) != errno {
		t.Errorf("Flip(%v): got %v %v, want %v", a, got, err, errno)
	}
}

func wantWrong(t *testing.T, a api.Auto, errno api.Errno) {
	t.Helper()
	wantNoOnly(t, a, errno)
	wantNoFlip(t, a, errno)
}

// wantLeast: got is an automaton of this shape, and the least one of its words.
func wantLeast(t *testing.T, base, tracks int, got api.Auto) {
	t.Helper()
	if err := auto.Check(got); err != nil || got.Base != base || got.Tracks != tracks {
		t.Fatalf("base %d, %d tracks: got %v, which is wrong: %v", base, tracks, got, err)
	}
	if !equal(got, must(t)(least.Least(got))) {
		t.Fatalf("base %d, %d tracks: got %v, which is not the least", base, tracks, got)
	}
}

// rightBeside tells of each two letters whether they may stand side by side.
func rightBeside(t *testing.T, base, tracks, many int) [][]bool {
	t.Helper()
	beside := make([][]bool, many)
	for x := range many {
		for y := range many {
			ok, err := letter.Right(base, tracks, []int{x, y})
			if err != nil {
				t.Fatal(err)
			}
			beside[x] = append(beside[x], ok)
		}
	}
	return beside
}

// wantTakes: got is the least automaton of the right words that a takes, or does not take, found by running both along all words, side by side.
func wantTakes(t *testing.T, a, got api.Auto, taken bool) {
	t.Helper()
	wantLeast(t, a.Base, a.Tracks, got)
	many := len(a.Next[0])
	beside := rightBeside(t, a.Base, a.Tracks, many)
	type spot struct {
		a, got, last int
		right        bool
	}
	start := spot{right: true}
	met := map[spot]bool{start: true}
	for waiting := []spot{start}; len(waiting) > 0; waiting = waiting[1:] {
		at := waiting[0]
		if got.Ends[at.got] != (at.right && a.Ends[at.a] == taken) {
			t.Fatalf("%v, %v: got %v, which takes other words", a, taken, got)
		}
		for x := range many {
			to := spot{a.Next[at.a][x], got.Next[at.got][x], x, at.right && beside[at.last][x]}
			if !met[to] {
				met[to] = true
				waiting = append(waiting, to)
			}
		}
	}
}

// wantWhole: all that is promised of an automaton of which neither way too many states come.
func wantWhole(t *testing.T, a api.Auto) {
	t.Helper()
	was := clone(a)
	yes, no := only(t, a), flip(t, a)
	wantTakes(t, a, yes, true)
	wantTakes(t, a, no, false)
	wantOnly(t, yes, yes)
	wantOnly(t, no, no)
	wantFlip(t, yes, no)
	wantFlip(t, no, yes)
	not := must(t)(pair.Not(a))
	wantOnly(t, not, no)
	wantFlip(t, not, yes)
	few := must(t)(least.Least(a))
	wantOnly(t, few, yes)
	wantFlip(t, few, no)
	if !equal(must(t)(pair.Both(yes, no, 14)), all(t, a.Base, a.Tracks)) {
		t.Errorf("%v: Only and Flip are together not All", a)
	}
	if !equal(must(t)(pair.Both(yes, no, 8)), every(a.Base, a.Tracks, false)) {
		t.Errorf("%v: a word is both of Only and Flip", a)
	}
	if !equal(a, was) {
		t.Fatalf("%v was written into", was)
	}
}

// eachWord calls f with all words of so many kinds of letters, up to so long.
func eachWord(many, long int, f func(w []int)) {
	var from func(w []int)
	from = func(w []int) {
		f(w)
		if len(w) < long {
			for x := range many {
				from(append(slices.Clone(w), x))
			}
		}
	}
	from(nil)
}

// longest: so long words are not too many, of so many kinds of letters.
func longest(many int) int {
	switch {
	case many <= 2:
		return 9
	case many <= 4:
		return 5
	case many <= 9:
		return 3
	}
	return 2
}

func takes(t *testing.T, a api.Auto, w []int) bool {
	t.Helper()
	ok, err := auto.Takes(a, w)
	if err != nil {
		t.Fatalf("Takes(%v, %v): %v", a, w, err)
	}
	return ok
}

func isRight(t *testing.T, base, tracks int, w []int) bool {
	t.Helper()
	ok, err := letter.Right(base, tracks, w)
	if err != nil {
		t.Fatalf("Right(%d, %d, %v): %v", base, tracks, w, err)
	}
	return ok
}

func TestV1Examples(t *testing.T) {
	odd := api.Auto{Base: 2, Tracks: 1, Next: [][]int{{0, 1}, {1, 0}}, Ends: []bool{false, true}}
	even := api.Auto{Base: 2, Tracks: 1, Next: [][]int{{0, 1}, {1, 0}}, Ends: []bool{true, false}}
	fib := api.Auto{Base: api.Fib, Tracks: 1, Next: [][]int{{0, 1}, {0, 2}, {2, 2}}, Ends: []bool{true, true, false}}
	wantAll(t, api.Fib, 1, fib)
	wantAll(t, 3, 2, every(3, 2, true))
	wantNoAll(t, 6, 3, api.ErrFull)
	wantOnly(t, odd, odd)
	wantFlip(t, odd, even)
	wantFlip(t, even, odd)
	wantOnly(t, every(api.Fib, 1, true), fib)
	wantFlip(t, every(api.Fib, 1, false), fib)
	// Of Fib an odd count of 1s, none beside another one.
	odd.Base = api.Fib
	wantOnly(t, odd, api.Auto{Base: api.Fib, Tracks: 1, Next: [][]int{{0, 1}, {2, 3}, {2, 4}, {3, 3}, {0, 3}}, Ends: []bool{false, true, true, false, false}})
	wantFlip(t, odd, api.Auto{Base: api.Fib, Tracks: 1, Next: [][]int{{0, 1}, {2, 3}, {2, 4}, {3, 3}, {0, 3}}, Ends: []bool{true, false, false, false, true}})
	// Of two tracks of Fib each minds its own 1s alone.
	wantAll(t, api.Fib, 2, api.Auto{Base: api.Fib, Tracks: 2, Next: [][]int{
		{0, 1, 2, 3},
		{0, 4, 2, 4},
		{0, 1, 4, 4},
		{0, 4, 4, 4},
		{4, 4, 4, 4},
	}, Ends: []bool{true, true, true, true, false}})
}

// TestV1AllEachShape: every base and count of tracks that go together.
func TestV1AllEachShape(t *testing.T) {
	eachShape(func(base, tracks, many int) {
		got := all(t, base, tracks)
		wantTakes(t, every(base, tracks, true), got, true)
		states := 1
		if base == api.Fib && tracks > 0 {
			states = many + 1
		}
		if len(got.Next) != states {
			t.Errorf("All(%d, %d): %d states, not %d", base, tracks, len(got.Next), states)
		}
		if states == 1 {
			wantAll(t, base, tracks, every(base, tracks, true))
		}
		eachWord(many, longest(many), func(w []int) {
			if want := isRight(t, base, tracks, w); takes(t, got, w) != want {
				t.Fatalf("All(%d, %d): %v: got %v", base, tracks, w, !want)
			}
		})
	})
}

// TestV1AllWordsOfNumbers: each word of numbers is right.
func TestV1AllWordsOfNumbers(t *testing.T) {
	source := rand.New(rand.NewSource(1))
	eachShape(func(base, tracks, _ int) {
		for range 50 {
			nums := make([]int, tracks)
			for i := range nums {
				nums[i] = source.Intn(1 << source.Intn(41))
			}
			w, err := letter.Word(base, nums)
			if err != nil {
				t.Fatal(err)
			}
			if !takes(t, all(t, base, tracks), w) {
				t.Errorf("All(%d, %d): the word of %v is not taken", base, tracks, nums)
			}
		}
	})
}

// TestV1LongWords: of whatever length, also above MaxWord, where chapter 2 says nothing.
func TestV1LongWords(t *testing.T) {
	for tracks := 1; tracks <= api.MaxTracks; tracks++ {
		got := all(t, api.Fib, tracks)
		for _, long := range []int{2, 59, 60, 61, 62, 200, api.MaxLong} {
			w := make([]int, long)
			for i := range w {
				// 1s on all tracks, as near as can be.
				w[i] = (1<<tracks - 1) * (i % 2)
			}
			if !takes(t, got, w) {
				t.Fatalf("All of %d tracks does not take %v", tracks, w)
			}
			for one := range tracks {
				for _, place := range []int{0, long/2 - long/2%2, long - 2 + long%2} {
					if place >= long {
						continue
					}
					wrong := slices.Clone(w)
					wrong[place] = 1 << one
					if takes(t, got, wrong) {
						t.Fatalf("All of %d tracks takes %v", tracks, wrong)
					}
				}
			}
		}
	}
}

// TestV1WrongShape: errors of Many.
func TestV1WrongShape(t *testing.T) {
	for _, base := range []int{math.MinInt, -1, 0, api.MaxBase + 1, math.MaxInt} {
		for _, tracks := range []int{math.MinInt, -1, 0, 1, 5, 6, math.MaxInt} {
			wantNoAll(t, base, tracks, api.ErrRange)
		}
	}
	for _, base := range bases {
		for _, tracks := range []int{math.MinInt, -1, api.MaxTracks + 1, math.MaxInt} {
			wantNoAll(t, base, tracks, api.ErrRange)
		}
		for tracks := len(letters[base]); tracks <= api.MaxTracks; tracks++ {
			wantNoAll(t, base, tracks, api.ErrFull)
		}
	}
}

// TestV1AllWords: a short word is of Only or of Flip, or not right.
func TestV1AllWords(t *testing.T) {
	source := rand.New(rand.NewSource(2))
	eachShape(func(base, tracks, many int) {
		for range 4 {
			a := wild(source, base, tracks, 2)
			yes, no := only(t, a), flip(t, a)
			eachWord(many, longest(many), func(w []int) {
				is, by := isRight(t, base, tracks, w), takes(t, a, w)
				if takes(t, yes, w) != (is && by) {
					t.Fatalf("Only(%v): %v: got %v", a, w, !(is && by))
				}
				if takes(t, no, w) != (is && !by) {
					t.Fatalf("Flip(%v): %v: got %v", a, w, !(is && !by))
				}
			})
		}
	})
}

// TestV1WildAutomata: every shape.
func TestV1WildAutomata(t *testing.T) {
	source := rand.New(rand.NewSource(3))
	eachShape(func(base, tracks, many int) {
		for _, states := range []int{1, 2, 3, 5, 9, 20, 39, api.MaxStates} {
			if base == api.Fib && tracks > 0 && states*many+1 > api.MaxStates {
				continue
			}
			for range 3 {
				wantWhole(t, wild(source, base, tracks, states))
			}
		}
	})
}

// TestV1EveryOrNone: all words, or none, whatever states they lead to.
func TestV1EveryOrNone(t *testing.T) {
	source := rand.New(rand.NewSource(4))
	eachShape(func(base, tracks, _ int) {
		yes, no := all(t, base, tracks), every(base, tracks, false)
		for _, states := range []int{1, 2, 40, api.MaxStates} {
			a := wild(source, base, tracks, states)
			a.Ends = slices.Repeat([]bool{true}, states)
			wantOnly(t, a, yes)
			wantFlip(t, a, no)
			a.Ends = make([]bool, states)
			wantOnly(t, a, no)
			wantFlip(t, a, yes)
		}
		wantOnly(t, yes, yes)
		wantFlip(t, yes, no)
		// Of what takes just the words that are not right, none is left.
		wrong := must(t)(pair.Not(yes))
		wantOnly(t, wrong, no)
		wantFlip(t, wrong, yes)
	})
}

// TestV1AllAreRight: but of Fib, and there with a track, Only is Least and Flip is Not; so never are there too many states.
func TestV1AllAreRight(t *testing.T) {
	source := rand.New(rand.NewSource(5))
	eachShape(func(base, tracks, _ int) {
		if base == api.Fib && tracks > 0 {
			return
		}
		for _, states := range []int{1, 2, 7, api.MaxStates - 1, api.MaxStates} {
			a := wild(source, base, tracks, states)
			wantOnly(t, a, must(t)(least.Least(a)))
			wantFlip(t, a, must(t)(pair.Not(a)))
		}
	})
}

// round: of Fib and one track, letters go on a line of so many states by 0 alone (by 1 to the last state, where no word is taken), then round and round a ring of so many, two at least, by either letter: a word is taken that ends on the line, or where the ring begins. Only has the line's states, two of each of the ring's, and the last one.
func round(line, ring int) api.Auto {
	a := still(api.Fib, 1, line+ring+1)
	for state := range line {
		a.Next[state] = []int{state + 1, line + ring}
		a.Ends[state] = true
	}
	for i := range ring {
		a.Next[line+i] = slices.Repeat([]int{line + (i+1)%ring}, 2)
	}
	a.Ends[line] = true
	return a
}

// TestV1MaxStates: so many states may come, but not one more.
func TestV1MaxStates(t *testing.T) {
	for _, c := range []struct{ line, ring, states int }{
		{3, 38, api.MaxStates},
		{1, 39, api.MaxStates},
		{75, 2, api.MaxStates},
		{2, 39, api.MaxStates + 1},
		{4, 38, api.MaxStates + 1},
		{76, 2, api.MaxStates + 1},
		{0, 79, 159},
	} {
		a := round(c.line, c.ring)
		not := must(t)(pair.Not(a))
		if c.states > api.MaxStates {
			wantNoOnly(t, a, api.ErrFull)
			wantNoFlip(t, not, api.ErrFull)
			continue
		}
		if got := only(t, a); len(got.Next) != c.states {
			t.Fatalf("%d states, not %d", len(got.Next), c.states)
		}
		wantTakes(t, a, only(t, a), true)
		wantFlip(t, not, only(t, a))
	}
}

// TestV1ManyStates: of many tracks of Fib few states become too many; but it is the least automaton that counts, however many pairs of states are met.
func TestV1ManyStates(t *testing.T) {
	source := rand.New(rand.NewSource(6))
	for tracks := 1; tracks <= api.MaxTracks; tracks++ {
		for _, states := range []int{79, api.MaxStates} {
			a := wild(source, api.Fib, tracks, states)
			if tracks > 1 {
				wantWrong(t, a, api.ErrFull)
			}
			// From the first letter on all is one.
			for state := 1; state < states; state++ {
				a.Ends[state] = true
			}
			a.Ends[0] = false
			for x := range a.Next[0] {
				a.Next[0][x] = max(1, a.Next[0][x])
			}
			for state := 1; state < states; state++ {
				for x := range a.Next[state] {
					a.Next[state][x] = max(1, a.Next[state][x])
				}
			}
			wantWhole(t, a)
		}
	}
	// Words of a length that can be parted by 2, and by 3.
	for parts := 2; parts <= 3; parts++ {
		a := still(api.Fib, api.MaxTracks, parts)
		for state := range parts {
			a.Next[state] = slices.Repeat([]int{(state + 1) % parts}, 32)
		}
		a.Ends[0] = true
		if 32*parts+1 > api.MaxStates {
			wantWrong(t, a, api.ErrFull)
			continue
		}
		wantWhole(t, a)
		if got := len(only(t, a).Next); got != 32*parts+1 {
			t.Errorf("%d states", got)
		}
	}
}

// TestV1FarStates: states that no word leads to, or no right one, do not count.
func TestV1FarStates(t *testing.T) {
	a := api.Auto{Base: api.Fib, Tracks: 1, Next: [][]int{{0, 1}, {0, 2}}, Ends: []bool{true, true}}
	source := rand.New(rand.NewSource(7))
	for len(a.Next) < api.MaxStates {
		a.Next = append(a.Next, []int{source.Intn(api.MaxStates), source.Intn(api.MaxStates)})
		a.Ends = append(a.Ends, source.Intn(2) == 0)
	}
	wantOnly(t, a, all(t, api.Fib, 1))
	wantFlip(t, a, every(api.Fib, 1, false))
	a.Ends[1] = false
	wantWhole(t, a)
}

// TestV1Tracks: a right word is right track by track, whichever comes first, and from behind.
func TestV1Tracks(t *testing.T) {
	eachShape(func(base, tracks, _ int) {
		got := all(t, base, tracks)
		want := every(base, tracks, true)
		for at := range tracks {
			one := must(t)(track.Spread(all(t, base, 1), tracks, []int{at}))
			want = must(t)(pair.Both(want, one, 8))
		}
		if !equal(got, want) {
			t.Errorf("All(%d, %d): got %v, want %v", base, tracks, got, want)
		}
		if back := must(t)(turn.Turn(got)); !equal(back, got) {
			t.Errorf("All(%d, %d): from behind it is %v", base, tracks, back)
		}
	})
}

// TestV1WrongAutomata: chapter 3's Check, ahead of all else.
func TestV1WrongAutomata(t *testing.T) {
	for _, base := range []int{math.MinInt, -1, 0, api.MaxBase + 1, math.MaxInt} {
		wantWrong(t, api.Auto{Base: base, Tracks: 1, Next: [][]int{{0, 0}}, Ends: []bool{true}}, api.ErrRange)
		wantWrong(t, api.Auto{Base: base, Tracks: 1}, api.ErrRange)
	}
	for _, base := range bases {
		for _, tracks := range []int{math.MinInt, -1, api.MaxTracks + 1, math.MaxInt} {
			wantWrong(t, api.Auto{Base: base, Tracks: tracks, Next: [][]int{{0, 0}}, Ends: []bool{true}}, api.ErrRange)
		}
		for tracks := len(letters[base]); tracks <= api.MaxTracks; tracks++ {
			wantWrong(t, api.Auto{Base: base, Tracks: tracks}, api.ErrFull)
		}
	}
	wantWrong(t, api.Auto{}, api.ErrRange)
	eachShape(func(base, tracks, many int) {
		wantWrong(t, api.Auto{Base: base, Tracks: tracks}, api.ErrNone)
		wantWrong(t, api.Auto{Base: base, Tracks: tracks, Ends: []bool{true}}, api.ErrNone)
		wantWrong(t, still(base, tracks, api.MaxStates+1), api.ErrFull)
		for _, ends := range []int{0, 2, 4} {
			a := still(base, tracks, 3)
			a.Ends = make([]bool, ends)
			wantWrong(t, a, api.ErrShape)
		}
		for _, n := range []int{0, many - 1, many + 1} {
			a := still(base, tracks, 3)
			a.Next[2] = make([]int, n)
			wantWrong(t, a, api.ErrShape)
		}
		for _, next := range []int{math.MinInt, -1, 3, math.MaxInt} {
			a := still(base, tracks, 3)
			a.Next[2][many-1] = next
			wantWrong(t, a, api.ErrRange)
		}
	})
	full := round(2, 39)
	full.Next[len(full.Next)-1][1] = len(full.Next)
	wantWrong(t, full, api.ErrRange)
	full = round(2, 39)
	full.Ends = full.Ends[1:]
	wantWrong(t, full, api.ErrShape)
}

// TestV1BehindTheLength: what lies behind a list's length is neither read nor written.
func TestV1BehindTheLength(t *testing.T) {
	row := []int{1, 0, 99}
	next := [][]int{row[:2], {1, 1}, {-1}}
	ends := []bool{false, true, true}
	a := api.Auto{Base: 2, Tracks: 1, Next: next[:2], Ends: ends[:2]}
	wantOnly(t, a, a)
	wantFlip(t, a, api.Auto{Base: 2, Tracks: 1, Next: a.Next, Ends: []bool{true, false}})
	a.Base = api.Fib
	wantWhole(t, a)
	if row[2] != 99 || len(next[2]) != 1 || next[2][0] != -1 || !ends[2] {
		t.Errorf("written into: %v %v %v", row, next, ends)
	}
}

// scribble writes into all memory of an automaton, list by list, also behind the lengths; no list of it shares any with another.
func scribble(t *testing.T, a api.Auto) {
	t.Helper()
	was := clone(a)
	for state, nexts := range a.Next {
		for i := range nexts[:cap(nexts)] {
			nexts[:cap(nexts)][i] = 77
		}
		for behind := state + 1; behind < len(a.Next); behind++ {
			if !slices.Equal(a.Next[behind], was.Next[behind]) {
				t.Fatalf("states %d and %d share memory", state, behind)
			}
		}
	}
	for i := range a.Next[:cap(a.Next)] {
		a.Next[:cap(a.Next)][i] = nil
	}
	for i := range a.Ends[:cap(a.Ends)] {
		a.Ends[:cap(a.Ends)][i] = !a.Ends[:cap(a.Ends)][i]
	}
}

// TestV1FreshMemory: what comes out is the caller's, also where it is like what was handed in.
func TestV1FreshMemory(t *testing.T) {
	eachShape(func(base, tracks, _ int) {
		a := all(t, base, tracks)
		was := clone(a)
		yes, no := only(t, a), flip(t, a)
		wantYes, wantNo := clone(yes), clone(no)
		scribble(t, yes)
		scribble(t, no)
		if !equal(a, was) {
			t.Errorf("%v shares memory with what is answered", was)
		}
		wantOnly(t, a, wantYes)
		wantFlip(t, a, wantNo)
		scribble(t, a)
		wantAll(t, base, tracks, was)
	})
}
