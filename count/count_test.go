package count_test

import (
	"math"
	"math/big"
	"math/rand"
	"slices"
	"testing"

	"filbert/api"
	"filbert/count"
	"filbert/digit"
	"filbert/letter"
	"filbert/line"
	"filbert/plain"
	"filbert/prove"
	"filbert/right"
	"filbert/text"
	"filbert/word"
)

var bases = []int{api.Fib, 2, 3, 4, 5, api.MaxBase}

// letters: of each base, how many there are of so many tracks.
var letters = map[int][]int{
	api.Fib: {1, 2, 4, 8, 16, 32},
	2:       {1, 2, 4, 8, 16, 32},
	3:       {1, 3, 9, 27},
	4:       {1, 4, 16},
	5:       {1, 5, 25},
	6:       {1, 6, 36},
}

// most: the greatest count.
var most = big.NewInt(api.MaxCount)

// eachShape calls f with every base and every count of tracks that go together.
func eachShape(f func(base, tracks, many int)) {
	for _, base := range bases {
		for tracks, many := range letters[base] {
			f(base, tracks, many)
		}
	}
}

// still: an automaton of so many states, none of which leads to another.
func still(base, tracks, states int) api.Auto {
	a := api.Auto{Base: base, Tracks: tracks, Ends: make([]bool, states)}
	for state := range states {
		a.Next = append(a.Next, slices.Repeat([]int{state}, letters[base][tracks]))
	}
	return a
}

// all: takes each word.
func all(base, tracks int) api.Auto {
	a := still(base, tracks, 1)
	a.Ends[0] = true
	return a
}

// wild: an automaton of so many states that lead anywhere; one state in so many is an end.
func wild(source *rand.Rand, base, tracks, states, ends int) api.Auto {
	a := still(base, tracks, states)
	for state := range states {
		a.Ends[state] = source.Intn(ends) == 0
		for x := range a.Next[state] {
			a.Next[state][x] = source.Intn(states)
		}
	}
	return a
}

// not: takes the words that a does not take.
func not(a api.Auto) api.Auto {
	b := clone(a)
	for state := range b.Ends {
		b.Ends[state] = !a.Ends[state]
	}
	return b
}

func clone(a api.Auto) api.Auto {
	b := a
	b.Ends = slices.Clone(a.Ends)
	b.Next = nil
	for _, nexts := range a.Next {
		b.Next = append(b.Next, slices.Clone(nexts))
	}
	return b
}

func equal(a, b api.Auto) bool {
	return a.Base == b.Base && a.Tracks == b.Tracks && slices.Equal(a.Ends, b.Ends) && sameRows(a.Next, b.Next)
}

func sameRows(a, b [][]int) bool { return slices.EqualFunc(a, b, slices.Equal) }

func sameRep(a, b api.Rep) bool {
	return a.Base == b.Base && a.Tracks == b.Tracks && slices.Equal(a.First, b.First) && slices.Equal(a.Last, b.Last) &&
		slices.EqualFunc(a.Steps, b.Steps, sameRows)
}

func cloneRep(r api.Rep) api.Rep {
	s := r
	s.First, s.Last, s.Steps = slices.Clone(r.First), slices.Clone(r.Last), nil
	for _, step := range r.Steps {
		var rows [][]int
		for _, row := range step {
			rows = append(rows, slices.Clone(row))
		}
		s.Steps = append(s.Steps, rows)
	}
	return s
}

func wantLong(t *testing.T, a api.Auto, n, want int) {
	t.Helper()
	if got, err := count.Long(a, n); err != nil || got != want {
		t.Errorf("Long(%v, %d): got %d %v, want %d", a, n, got, err, want)
	}
}

func wantNoLong(t *testing.T, a api.Auto, n int, errno api.Errno) {
	t.Helper()
	if got, err := count.Long(a, n); got != 0 || plain.Told(err) != errno {
		t.Errorf("Long(%v, %d): got %d %v, want %v", a, n, got, err, errno)
	}
}

func wantBelow(t *testing.T, a api.Auto, n, want int) {
	t.Helper()
	if got, err := count.Below(a, n); err != nil || got != want {
		t.Errorf("Below(%v, %d): got %d %v, want %d", a, n, got, err, want)
	}
}

func wantNoBelow(t *testing.T, a api.Auto, n int, errno api.Errno) {
	t.Helper()
	if got, err := count.Below(a, n); got != 0 || plain.Told(err) != errno {
		t.Errorf("Below(%v, %d): got %d %v, want %v", a, n, got, err, errno)
	}
}

func wantNoRep(t *testing.T, a api.Auto, track int, errno api.Errno) {
	t.Helper()
	if got, err := count.Rep(a, track); !sameRep(got, api.Rep{}) || plain.Told(err) != errno {
		t.Errorf("Rep(%v, %d): got %v %v, want %v", a, track, got, err, errno)
	}
}

func wantEval(t *testing.T, r api.Rep, w []int, want int) {
	t.Helper()
	if got, err := count.Eval(r, w); err != nil || got != want {
		t.Errorf("Eval(%v, %v): got %d %v, want %d", r, w, got, err, want)
	}
}

func wantNoEval(t *testing.T, r api.Rep, w []int, errno api.Errno) {
	t.Helper()
	if got, err := count.Eval(r, w); got != 0 || plain.Told(err) != errno {
		t.Errorf("Eval(%v, %v): got %d %v, want %v", r, w, got, err, errno)
	}
}

// wantCount: a count that is told, or, if it is above MaxCount, ErrFull.
func wantCount(t *testing.T, got int, err error, want *big.Int) {
	t.Helper()
	switch {
	case want.Cmp(most) > 0:
		if got != 0 || plain.Told(err) != api.ErrFull {
			t.Fatalf("got %d %v, want ErrFull: it is %v", got, err, want)
		}
	case err != nil || big.NewInt(int64(got)).Cmp(want) != 0:
		t.Fatalf("got %d %v, want %v", got, err, want)
	}
}

// wantWrong: what is wrong with an automaton is said ahead of all else.
func wantWrong(t *testing.T, a api.Auto, errno api.Errno) {
	t.Helper()
	for _, n := range []int{0, 1, api.MaxLong, -1, api.MaxLong + 1, api.MaxNum + 1, math.MinInt, math.MaxInt} {
		wantNoLong(t, a, n, errno)
		wantNoBelow(t, a, n, errno)
		wantNoRep(t, a, n, errno)
	}
}

// ends: does a word lead to an end?
func ends(a api.Auto, w []int) bool {
	state := 0
	for _, x := range w {
		state = a.Next[state][x]
	}
	return a.Ends[state]
}

// eachWord calls f with each word of so many letters.
func eachWord(many, long int, f func(w []int)) {
	words := [][]int{nil}
	for range long {
		var longer [][]int
		for _, w := range words {
			for x := range many {
				longer = append(longer, append(slices.Clone(w), x))
			}
		}
		words = longer
	}
	for _, w := range words {
		f(w)
	}
}

// takes: does a take the word of a number?
func takes(t *testing.T, a api.Auto, n int) bool {
	t.Helper()
	w, err := letter.Word(a.Base, []int{n})
	if err != nil {
		t.Fatal(err)
	}
	return ends(a, w)
}

// from: of each state, how many words of so many letters lead from there to an end, however many that are.
func from(a api.Auto, long int) []*big.Int {
	row := make([]*big.Int, len(a.Next))
	for state, end := range a.Ends {
		row[state] = new(big.Int)
		if end {
			row[state].SetInt64(1)
		}
	}
	for range long {
		more := make([]*big.Int, len(row))
		for state, nexts := range a.Next {
			more[state] = new(big.Int)
			for _, next := range nexts {
				more[state].Add(more[state], row[next])
			}
		}
		row = more
	}
	return row
}

// rest is what is left of a word that is read: so many letters, from a state on.
type rest struct{ state, last, left int }

// below: of how many numbers below n a takes the word: those with fewer digits, length by length, and those with as many.
func below(t *testing.T, a api.Auto, n int) int {
	t.Helper()
	known := map[rest]int{}
	var ways func(r rest) int
	ways = func(r rest) int {
		if sum, met := known[r]; met {
			return sum
		}
		sum := 0
		if r.left == 0 && a.Ends[r.state] {
			sum = 1
		}
		for x, next := range a.Next[r.state] {
			if r.left > 0 && (a.Base != api.Fib || x*r.last == 0) {
				sum += ways(rest{next, x, r.left - 1})
			}
		}
		known[r] = sum
		return sum
	}
	d, err := digit.Of(a.Base, n)
	if err != nil {
		t.Fatal(err)
	}
	sum, state := 0, 0
	for i, digit := range d {
		if i == 0 {
			sum += ways(rest{0, 0, 0})
		}
		for x := 1; i > 0 && x < len(a.Next[0]); x++ {
			sum += ways(rest{a.Next[0][x], x, len(d) - 1 - i})
		}
		for x := range digit {
			if i > 0 || x > 0 {
				sum += ways(rest{a.Next[state][x], x, len(d) - 1 - i})
			}
		}
		state = a.Next[state][digit]
	}
	return sum
}

// three: takes the words of numbers that 3 divides.
var three = api.Auto{Base: 2, Tracks: 1, Next: [][]int{{0, 1}, {2, 0}, {1, 2}}, Ends: []bool{true, false, false}}

// claimed: the automaton of a claim.
func claimed(t *testing.T, base int, s string, words []api.Out) api.Auto {
	t.Helper()
	f, place, err := text.Parse(s)
	if err != nil {
		t.Fatalf("%s: %v at %d", s, err, place)
	}
	a, _, err := prove.Of(base, f, words)
	if err != nil {
		t.Fatalf("base %d, %s: %v", base, s, err)
	}
	return a
}

// TestC1Examples: some counts, seen through.
func TestC1Examples(t *testing.T) {
	for n, want := range []int{1, 1, 2, 3, 6, 11, 22, 43} {
		wantLong(t, three, n, want)
	}
	for n, want := range []int{0, 1, 1, 1, 2, 2, 2, 3, 3, 3, 4} {
		wantBelow(t, three, n, want)
	}
	wantBelow(t, three, 1000, 334)
	wantBelow(t, three, api.MaxNum, api.MaxNum/3+1)
	// Words in which no two 1s stand side by side: 1, 2, 3, 5, 8, ..
	apart, err := right.All(api.Fib, 1)
	if err != nil {
		t.Fatal(err)
	}
	for n, want := range []int{1, 2, 3, 5, 8, 13, 21, 34} {
		wantLong(t, apart, n, want)
	}
	wantBelow(t, apart, 12345, 12345)
}

// TestC1LongAllWords: held against all words one by one.
func TestC1LongAllWords(t *testing.T) {
	source := rand.New(rand.NewSource(1))
	eachShape(func(base, tracks, many int) {
		for states := 1; states <= 6; states++ {
			a := wild(source, base, tracks, states, 1+source.Intn(4))
			for long, words := 0, 1; long <= 8 && words <= 2000; long, words = long+1, words*many {
				want := 0
				eachWord(many, long, func(w []int) {
					if ends(a, w) {
						want++
					}
				})
				wantLong(t, a, long, want)
			}
		}
	})
}

// TestC1LongLonger: held against what is counted from behind, however much that is.
func TestC1LongLonger(t *testing.T) {
	source := rand.New(rand.NewSource(2))
	eachShape(func(base, tracks, many int) {
		for _, states := range []int{1, 2, 7, 63, 64, 65, api.MaxStates} {
			a := wild(source, base, tracks, states, 1+source.Intn(states))
			for _, long := range []int{9, 11, 12, 13, 15, 20, 23, 30, 31, 59, 60, 61, 63, 64, 65, 399, api.MaxLong} {
				got, err := count.Long(a, long)
				wantCount(t, got, err, from(a, long)[0])
			}
		}
	})
}

// TestC1LongMaxCount: just as many as may be, and one more; and so many that they would wrap round to few.
func TestC1LongMaxCount(t *testing.T) {
	eachShape(func(base, tracks, many int) {
		words := big.NewInt(1)
		for long := 0; long <= api.MaxLong; long++ {
			got, err := count.Long(all(base, tracks), long)
			wantCount(t, got, err, words)
			words = new(big.Int).Mul(words, big.NewInt(int64(many)))
		}
	})
	wantLong(t, all(2, 1), 60, api.MaxCount)
	wantNoLong(t, all(2, 1), 61, api.ErrFull)
	wantNoLong(t, all(2, 1), 64, api.ErrFull)
	wantLong(t, all(2, 5), 12, api.MaxCount)
	wantNoLong(t, all(2, 5), 13, api.ErrFull)
	wantLong(t, all(4, 2), 15, api.MaxCount)
	wantNoLong(t, all(4, 2), 16, api.ErrFull)
	// Of words of 61 letters: those that begin with 0, and one of the others.
	a := still(2, 1, 64)
	a.Next[0] = []int{62, 1}
	for state := 1; state <= 60; state++ {
		a.Next[state] = []int{63, state + 1}
	}
	a.Ends[62] = true
	wantLong(t, a, 61, api.MaxCount)
	a.Ends[61] = true
	wantNoLong(t, a, 61, api.ErrFull)
}

// TestC1LongLost: where words are lost, there may be more of them than may be.
func TestC1LongLost(t *testing.T) {
	eachShape(func(base, tracks, many int) {
		if many == 1 {
			return
		}
		zeros := still(base, tracks, 2)
		zeros.Next[0] = append([]int{0}, slices.Repeat([]int{1}, many-1)...)
		zeros.Ends[0] = true
		for _, long := range []int{0, 1, 59, 61, 64, 200, api.MaxLong} {
			wantLong(t, zeros, long, 1)
			wantLong(t, still(base, tracks, 3), long, 0)
		}
		// They may come together once more, and be still too many: then they count.
		zeros.Ends = []bool{false, true}
		wantNoLong(t, zeros, api.MaxLong, api.ErrFull)
	})
	// Of too many words that are met, none, or too many, are taken in turn.
	turn := api.Auto{Base: 2, Tracks: 1, Next: [][]int{{1, 1}, {0, 0}}, Ends: []bool{false, true}}
	for long := 62; long <= api.MaxLong; long += 2 {
		wantLong(t, turn, long, 0)
		wantNoLong(t, turn, long-1, api.ErrFull)
	}
}

// TestC1LongWrongNumbers: n is from 0 to MaxLong.
func TestC1LongWrongNumbers(t *testing.T) {
	eachShape(func(base, tracks, many int) {
		for _, n := range []int{math.MinInt, -1, api.MaxLong + 1, math.MaxInt} {
			wantNoLong(t, all(base, tracks), n, api.ErrRange)
			wantNoLong(t, still(base, tracks, 1), n, api.ErrRange)
		}
		wantLong(t, still(base, tracks, 1), api.MaxLong, 0)
		wantLong(t, all(base, tracks), 0, 1)
	})
	wantLong(t, all(6, 0), api.MaxLong, 1)
}

// TestC1BelowAllNumbers: held against all numbers one by one.
func TestC1BelowAllNumbers(t *testing.T) {
	source := rand.New(rand.NewSource(3))
	for _, base := range bases {
		for states := 1; states <= 9; states++ {
			a := wild(source, base, 1, states, 1+source.Intn(3))
			want := 0
			for n := range 700 {
				wantBelow(t, a, n, want)
				if takes(t, a, n) {
					want++
				}
			}
		}
	}
}

// TestC1BelowGreatNumbers: held against another way to count, and number by number.
func TestC1BelowGreatNumbers(t *testing.T) {
	source := rand.New(rand.NewSource(4))
	for _, base := range bases {
		for _, states := range []int{1, 2, 5, 64, api.MaxStates} {
			a := wild(source, base, 1, states, 1+source.Intn(3))
			for _, n := range []int{0, 1, 4180, 4181, 6765, 1 << 20, 3 * 1 << 30, 1<<39 - 1, source.Intn(1 << 20), source.Intn(api.MaxNum), api.MaxNum - 2, api.MaxNum - 1} {
				want := below(t, a, n)
				wantBelow(t, a, n, want)
				wantBelow(t, not(a), n, n-want)
				if takes(t, a, n) {
					want++
				}
				wantBelow(t, a, n+1, want)
			}
		}
	}
}

// TestC1BelowPowers: around numbers with a digit more.
func TestC1BelowPowers(t *testing.T) {
	source := rand.New(rand.NewSource(5))
	for _, base := range bases {
		a := wild(source, base, 1, 4, 2)
		last := 1
		for n := 1; n < api.MaxNum; {
			for _, near := range []int{n - 1, n, n + 1} {
				wantBelow(t, a, near, below(t, a, near))
				wantBelow(t, all(base, 1), near, near)
			}
			if base == api.Fib {
				n, last = n+last, n
			} else {
				n *= base
			}
		}
	}
}

// TestC1BelowZerosAhead: words that begin with 0 are of no number, whatever becomes of them; of 0 it is the empty one.
func TestC1BelowZerosAhead(t *testing.T) {
	for _, base := range bases {
		a := still(base, 1, 3)
		a.Next[0] = append([]int{1}, slices.Repeat([]int{2}, base)[:letters[base][1]-1]...)
		a.Ends[1] = true
		for _, n := range []int{0, 1, 2, 7, 100, api.MaxNum} {
			wantBelow(t, a, n, 0)
		}
		a.Ends = []bool{true, true, false}
		for _, n := range []int{1, 2, 7, 100, api.MaxNum} {
			wantBelow(t, a, n, 1)
		}
		wantBelow(t, a, 0, 0)
		a.Ends = []bool{false, false, true}
		for _, n := range []int{1, 2, 7, 100, api.MaxNum} {
			wantBelow(t, a, n, n-1)
		}
		wantBelow(t, a, 0, 0)
		// A number may lead back to the beginning: there 0s are read.
		a = still(base, 1, 3)
		a.Next[0] = append([]int{1}, make([]int, letters[base][1]-1)...)
		a.Ends[1] = true
		want := 0
		for n := range 200 {
			wantBelow(t, a, n, want)
			if takes(t, a, n) {
				want++
			}
		}
	}
}

// TestC1BelowNotRight: of Fib words with two 1s side by side are of no number.
func TestC1BelowNotRight(t *testing.T) {
	two := api.Auto{Base: api.Fib, Tracks: 1, Next: [][]int{{0, 1}, {0, 2}, {2, 2}}, Ends: []bool{false, false, true}}
	for _, n := range []int{0, 1, 2, 3, 4, 5, 100, 4181, api.MaxNum} {
		wantBelow(t, two, n, 0)
		wantBelow(t, not(two), n, n)
	}
	two.Base = 2
	wantBelow(t, two, 8, 3)
}

// TestC1BelowDivided: each k-th number is divided by k, whatever the base.
func TestC1BelowDivided(t *testing.T) {
	for _, base := range bases {
		for _, c := range []struct {
			text string
			by   int
		}{{"Eb:a=2b", 2}, {"Eb:a=3b", 3}, {"Eb:a=5b", 5}} {
			a := claimed(t, base, c.text, nil)
			for _, n := range []int{0, 1, 2, 3, 59, 60, 61, 1000000, 1<<39 + 12345, api.MaxNum} {
				wantBelow(t, a, n, (n+c.by-1)/c.by)
			}
		}
		less := claimed(t, base, "a<37", nil)
		for _, n := range []int{0, 1, 36, 37, 38, 1000, api.MaxNum} {
			wantBelow(t, less, n, min(n, 37))
		}
	}
	thue, err := word.Named("thue")
	if err != nil {
		t.Fatal(err)
	}
	wantBelow(t, claimed(t, 2, "@0[a]=1", []api.Out{thue}), api.MaxNum, api.MaxNum/2)
}

// TestC1BelowMostDigits: numbers with as many digits as numbers may have.
func TestC1BelowMostDigits(t *testing.T) {
	source := rand.New(rand.NewSource(6))
	for _, base := range bases {
		d, err := digit.Of(base, api.MaxNum-1)
		if err != nil {
			t.Fatal(err)
		}
		// Takes just the words with that many letters.
		long := len(d)
		a := still(base, 1, long+2)
		for state := range long + 1 {
			a.Next[state] = slices.Repeat([]int{state + 1}, letters[base][1])
		}
		a.Ends[long] = true
		least, err := digit.Value(base, append([]int{1}, make([]int, long-1)...))
		if err != nil {
			t.Fatal(err)
		}
		wantBelow(t, a, least, 0)
		wantBelow(t, a, least+1, 1)
		wantBelow(t, a, api.MaxNum, api.MaxNum-least)
		full := wild(source, base, 1, api.MaxStates, 2)
		wantBelow(t, full, api.MaxNum, below(t, full, api.MaxNum))
	}
}

// TestC1BelowWrong: one track, and a number from 0 to MaxNum.
func TestC1BelowWrong(t *testing.T) {
	eachShape(func(base, tracks, many int) {
		for _, n := range []int{math.MinInt, -1, 0, 1, api.MaxNum, api.MaxNum + 1, math.MaxInt} {
			switch {
			case tracks != 1:
				wantNoBelow(t, all(base, tracks), n, api.ErrShape)
			case n < 0 || n > api.MaxNum:
				wantNoBelow(t, all(base, tracks), n, api.ErrRange)
			default:
				wantBelow(t, all(base, tracks), n, n)
			}
		}
	})
}

// TestC1C2WrongAutomata: chapter 3's Check, ahead of all else.
func TestC1C2WrongAutomata(t *testing.T) {
	for _, base := range []int{math.MinInt, -1, 0, api.MaxBase + 1, math.MaxInt} {
		wantWrong(t, api.Auto{Base: base, Tracks: 1, Next: [][]int{{0, 0}}, Ends: []bool{true}}, api.ErrRange)
	}
	for _, base := range bases {
		for _, tracks := range []int{math.MinInt, -1, api.MaxTracks + 1, math.MaxInt} {
			wantWrong(t, api.Auto{Base: base, Tracks: tracks, Next: [][]int{{0, 0}}, Ends: []bool{true}}, api.ErrRange)
		}
		for tracks := len(letters[base]); tracks <= api.MaxTracks; tracks++ {
			wantWrong(t, api.Auto{Base: base, Tracks: tracks}, api.ErrFull)
		}
	}
	wantWrong(t, api.Auto{}, api.ErrRange)
	eachShape(func(base, tracks, many int) {
		wantWrong(t, api.Auto{Base: base, Tracks: tracks}, api.ErrNone)
		wantWrong(t, api.Auto{Base: base, Tracks: tracks, Ends: []bool{true}}, api.ErrNone)
		wantWrong(t, still(base, tracks, api.MaxStates+1), api.ErrFull)
		for _, ends := range []int{0, 2, 4} {
			a := still(base, tracks, 3)
			a.Ends = make([]bool, ends)
			wantWrong(t, a, api.ErrShape)
		}
		for _, n := range []int{0, many - 1, many + 1} {
			a := still(base, tracks, 3)
			a.Next[2] = make([]int, n)
			wantWrong(t, a, api.ErrShape)
		}
		for _, next := range []int{math.MinInt, -1, 3, math.MaxInt} {
			a := still(base, tracks, 3)
			a.Next[2][many-1] = next
			wantWrong(t, a, api.ErrRange)
		}
	})
}

// repOf: what counts on a track, digits taken one by one.
func repOf(t *testing.T, a api.Auto, track int) api.Rep {
	t.Helper()
	r := api.Rep{Base: a.Base, Tracks: a.Tracks - 1, First: make([]int, len(a.Next)), Last: make([]int, len(a.Next))}
	r.First[0] = 1
	for range letters[a.Base][a.Tracks-1] {
		var step [][]int
		for range a.Next {
			step = append(step, make([]int, len(a.Next)))
		}
		r.Steps = append(r.Steps, step)
	}
	for state, nexts := range a.Next {
		if a.Ends[state] {
			r.Last[state] = 1
		}
		for x, next := range nexts {
			d, err := letter.Unpack(a.Base, a.Tracks, x)
			if err != nil {
				t.Fatal(err)
			}
			other, err := letter.Pack(a.Base, append(slices.Clone(d[:track]), d[track+1:]...))
			if err != nil {
				t.Fatal(err)
			}
			r.Steps[other][state][next]++
		}
	}
	return r
}

// TestC2Examples: some, seen through.
func TestC2Examples(t *testing.T) {
	r, err := count.Rep(three, 0)
	want := api.Rep{Base: 2, First: []int{1, 0, 0}, Steps: [][][]int{{{1, 1, 0}, {1, 0, 1}, {0, 1, 1}}}, Last: []int{1, 0, 0}}
	if err != nil || !sameRep(r, want) {
		t.Errorf("Rep: got %v %v, want %v", r, err, want)
	}
	wantEval(t, r, nil, 1)
	wantEval(t, r, []int{0, 0, 0, 0}, 6)
	// Of 3, two tracks: the second digit is not below the first one, or nothing is taken.
	less := api.Auto{Base: 3, Tracks: 2, Next: [][]int{{0, 0, 0, 1, 0, 0, 1, 1, 0}, slices.Repeat([]int{1}, 9)}, Ends: []bool{true, false}}
	r, err = count.Rep(less, 0)
	want = api.Rep{Base: 3, Tracks: 1, First: []int{1, 0}, Steps: [][][]int{{{1, 2}, {0, 3}}, {{2, 1}, {0, 3}}, {{3, 0}, {0, 3}}}, Last: []int{1, 0}}
	if err != nil || !sameRep(r, want) {
		t.Errorf("Rep: got %v %v, want %v", r, err, want)
	}
	wantEval(t, r, []int{1, 2, 1, 0}, 2*3*2)
	r, err = count.Rep(less, 1)
	want.Steps = [][][]int{{{3, 0}, {0, 3}}, {{2, 1}, {0, 3}}, {{1, 2}, {0, 3}}}
	if err != nil || !sameRep(r, want) {
		t.Errorf("Rep: got %v %v, want %v", r, err, want)
	}
	wantEval(t, r, []int{1, 2, 1, 0}, 2*2*3)
}

// TestC2RepEachTrack: every shape and every track.
func TestC2RepEachTrack(t *testing.T) {
	source := rand.New(rand.NewSource(7))
	eachShape(func(base, tracks, many int) {
		for _, states := range []int{1, 2, 3, 8, 65, api.MaxStates} {
			a := wild(source, base, tracks, states, 2)
			for track := range tracks {
				got, err := count.Rep(a, track)
				if want := repOf(t, a, track); err != nil || !sameRep(got, want) {
					t.Errorf("Rep(%v, %d): got %v %v, want %v", a, track, got, err, want)
				}
			}
		}
	})
}

// TestC2NoSuchTrack: tracks are from 0 on.
func TestC2NoSuchTrack(t *testing.T) {
	eachShape(func(base, tracks, many int) {
		for _, track := range []int{math.MinInt, -1, tracks, tracks + 1, math.MaxInt} {
			wantNoRep(t, all(base, tracks), track, api.ErrRange)
		}
	})
}

// TestC2HowManyWays: in how many ways a word as long can stand beside one.
func TestC2HowManyWays(t *testing.T) {
	source := rand.New(rand.NewSource(8))
	eachShape(func(base, tracks, many int) {
		for track := range tracks {
			a := wild(source, base, tracks, 2+source.Intn(5), 2)
			r, err := count.Rep(a, track)
			if err != nil {
				t.Fatal(err)
			}
			for long := range 4 {
				if long > 2 && many > 9 {
					continue
				}
				ways := map[[4]int]int{}
				eachWord(many, long, func(w []int) {
					if ends(a, w) {
						ways[key(t, base, tracks, track, w)]++
					}
				})
				eachWord(letters[base][tracks-1], long, func(w []int) {
					wantEval(t, r, w, ways[[4]int(append(slices.Clone(w), 0, 0, 0, 0))])
				})
			}
		}
	})
}

// key: the letters of a word without a track, and 0s behind it.
func key(t *testing.T, base, tracks, track int, w []int) [4]int {
	t.Helper()
	var k [4]int
	for i, x := range w {
		d, err := letter.Unpack(base, tracks, x)
		if err != nil {
			t.Fatal(err)
		}
		if k[i], err = letter.Pack(base, slices.Delete(d, track, track+1)); err != nil {
			t.Fatal(err)
		}
	}
	return k
}

// TestC2NotGreater: a number, and each that is not greater, in as many digits, whatever the base.
func TestC2NotGreater(t *testing.T) {
	for _, base := range bases {
		for track, coefs := range [][]int{{1, -1}, {-1, 1}} {
			a, err := line.Of(base, coefs, -1, true)
			if err != nil {
				t.Fatal(err)
			}
			r, err := count.Rep(a, track)
			if err != nil {
				t.Fatal(err)
			}
			for _, n := range []int{0, 1, 2, 3, 7, 100, 4181, 1 << 30, api.MaxNum - 1, api.MaxNum} {
				w, err := letter.Word(base, []int{n})
				if err != nil {
					t.Fatal(err)
				}
				wantEval(t, r, w, n+1)
			}
		}
	}
}

// TestC2AsLong: with no other track there are as many ways as words that are as long.
func TestC2AsLong(t *testing.T) {
	source := rand.New(rand.NewSource(9))
	for _, base := range bases {
		a := wild(source, base, 1, 6, 2)
		r, err := count.Rep(a, 0)
		if err != nil {
			t.Fatal(err)
		}
		for long := range 23 {
			want, err := count.Long(a, long)
			if err != nil {
				t.Fatal(err)
			}
			wantEval(t, r, make([]int, long), want)
		}
	}
}

// evalBig: what comes, and whether a number that comes up is above MaxCount, however great they are.
func evalBig(r api.Rep, w []int) (*big.Int, bool) {
	row := make([]*big.Int, len(r.First))
	for i, n := range r.First {
		row[i] = big.NewInt(int64(n))
	}
	full := false
	for _, x := range w {
		more := make([]*big.Int, len(row))
		for to := range more {
			more[to] = new(big.Int)
			for at, n := range row {
				more[to].Add(more[to], new(big.Int).Mul(n, big.NewInt(int64(r.Steps[x][at][to]))))
			}
			full = full || more[to].Cmp(most) > 0
		}
		row = more
	}
	sum := new(big.Int)
	for i, n := range row {
		sum.Add(sum, new(big.Int).Mul(n, big.NewInt(int64(r.Last[i]))))
	}
	return sum, full || sum.Cmp(most) > 0
}

// filled: so many places, and numbers of those that may be.
func filled(source *rand.Rand, base, tracks, places int, numbers []int) api.Rep {
	row := func() []int {
		row := make([]int, places)
		for i := range row {
			row[i] = numbers[source.Intn(len(numbers))]
		}
		return row
	}
	r := api.Rep{Base: base, Tracks: tracks, First: row(), Last: row()}
	for range letters[base][tracks] {
		var step [][]int
		for range places {
			step = append(step, row())
		}
		r.Steps = append(r.Steps, step)
	}
	return r
}

// TestC2EvalWild: every shape, held against numbers without a bound.
func TestC2EvalWild(t *testing.T) {
	source := rand.New(rand.NewSource(10))
	fine, full := 0, 0
	eachShape(func(base, tracks, many int) {
		for _, numbers := range [][]int{
			{0, 1}, {0, 1, 2, 3}, {0, 0, 0, 1, 1000}, {0, 0, 0, 0, 0, 1, 1 << 30, 1 << 32}, {0, 0, 0, 0, 0, 1, 1 << 59, api.MaxCount},
			{0, 0, 0, 0, 1, api.MaxCount / 3, api.MaxCount/3 + 1}, {api.MaxCount}, {0, 0, 0, 1, 3037000499, 3037000500},
		} {
			for _, places := range []int{1, 2, 3, 5, 9} {
				for _, long := range []int{0, 1, 2, 3, 5, 8, 13} {
					r := filled(source, base, tracks, places, numbers)
					w := make([]int, long)
					for i := range w {
						w[i] = source.Intn(many)
					}
					want, over := evalBig(r, w)
					got, err := count.Eval(r, w)
					if over {
						full++
						want = new(big.Int).Add(most, most)
					} else {
						fine++
					}
					wantCount(t, got, err, want)
				}
			}
		}
	})
	if fine < 1000 || full < 1000 {
		t.Errorf("%d were fine, %d full", fine, full)
	}
}

// single: one place, base 2, no track.
func single(first, step, last int) api.Rep {
	return api.Rep{Base: 2, First: []int{first}, Steps: [][][]int{{{step}}}, Last: []int{last}}
}

// heap: so many places; a letter adds all of them, each times step, up at the last one.
func heap(places, first, step, last int) api.Rep {
	r := api.Rep{Base: 3, First: slices.Repeat([]int{first}, places), Last: make([]int, places)}
	r.Last[places-1] = last
	rows := make([][]int, places)
	for i := range rows {
		rows[i] = make([]int, places)
		rows[i][places-1] = step
	}
	r.Steps = [][][]int{rows}
	return r
}

// TestC2EvalMaxCount: just as much as may be, and one more; and so much that it would wrap round.
func TestC2EvalMaxCount(t *testing.T) {
	wantEval(t, single(api.MaxCount, 7, 1), nil, api.MaxCount)
	wantEval(t, single(api.MaxCount, 1, 1), make([]int, api.MaxLong), api.MaxCount)
	wantEval(t, single(api.MaxCount, 0, api.MaxCount), []int{0}, 0)
	wantEval(t, single(0, api.MaxCount, api.MaxCount), []int{0, 0, 0}, 0)
	wantEval(t, single(api.MaxCount, api.MaxCount, 0), nil, 0)
	wantEval(t, single(1, 2, 1), make([]int, 60), api.MaxCount)
	wantEval(t, single(1<<30, 1<<30, 1), []int{0}, api.MaxCount)
	wantEval(t, single(1<<30, 1, 1<<30), []int{0}, api.MaxCount)
	for _, c := range []struct{ first, step, last, long int }{
		{api.MaxCount, 1, 2, 0}, {api.MaxCount, 2, 0, 1}, {api.MaxCount, 2, 0, 2}, {1, 2, 0, 61}, {1, 2, 1, 64}, {1, 2, 1, api.MaxLong},
		{1 << 32, 1 << 32, 0, 1}, {1 << 32, 1, 1 << 32, 1}, {1 << 32, 1, 1 << 32, 0}, {1 << 30, 1<<30 + 1, 0, 1}, {3, api.MaxCount/3 + 1, 0, 1},
		{api.MaxCount, api.MaxCount, 0, 1}, {api.MaxCount, api.MaxCount, api.MaxCount, api.MaxLong}, {api.MaxCount - 1, 1, api.MaxCount, 3},
	} {
		wantNoEval(t, single(c.first, c.step, c.last), make([]int, c.long), api.ErrFull)
	}
	wantEval(t, single(3, api.MaxCount/3, 1), []int{0}, api.MaxCount-1)
	for places := 1; places <= api.MaxStates; places++ {
		each := api.MaxCount / places
		wantEval(t, heap(places, each, 1, 1), []int{0}, each*places)
		wantEval(t, heap(places, 1, each, 1), []int{0}, each*places)
		if places > 1 {
			wantNoEval(t, heap(places, each+1, 1, 0), []int{0}, api.ErrFull)
			wantNoEval(t, heap(places, 1, each+1, 0), []int{0}, api.ErrFull)
			wantNoEval(t, heap(places, api.MaxCount, 1, 0), []int{0}, api.ErrFull)
			wantNoEval(t, heap(places, 1, api.MaxCount, 0), []int{0}, api.ErrFull)
		}
		sum := api.Rep{Base: 3, First: slices.Repeat([]int{each}, places), Last: slices.Repeat([]int{1}, places), Steps: heap(places, 1, 1, 1).Steps}
		wantEval(t, sum, nil, each*places)
		sum.First[places-1] += api.MaxCount - each*places
		wantEval(t, sum, nil, api.MaxCount)
		if places > 1 {
			sum.First[places-1]++
			wantNoEval(t, sum, nil, api.ErrFull)
			sum.First = slices.Repeat([]int{api.MaxCount}, places)
			wantNoEval(t, sum, nil, api.ErrFull)
		}
	}
}

// TestC2EvalComesUp: a number that comes up on the way may not be too great, even where nothing comes of it; one that is led nowhere in time does not come up.
func TestC2EvalComesUp(t *testing.T) {
	r := api.Rep{Base: 2, Tracks: 1, First: []int{1, 1}, Last: []int{1, 0}, Steps: [][][]int{
		{{1, 0}, {0, 2}}, // the second place doubles
		{{1, 0}, {0, 0}}, // it is lost
	}}
	wantEval(t, r, make([]int, 60), 1)
	wantNoEval(t, r, make([]int, 61), api.ErrFull)
	wantNoEval(t, r, append(make([]int, 61), 1), api.ErrFull)
	wantEval(t, r, append(make([]int, 60), append([]int{1}, make([]int, 300)...)...), 1)
	// Each place times Last does not come up alone, but their sum does.
	r.Last = []int{1, 1}
	wantEval(t, r, append(make([]int, 60), 1), 1)
	wantNoEval(t, r, make([]int, 60), api.ErrFull)
	wantEval(t, r, make([]int, 59), 1<<59+1)
}

// TestC2EvalManyPlaces: as many places as may be, and as many letters.
func TestC2EvalManyPlaces(t *testing.T) {
	places := api.MaxStates
	turn := make([][]int, places)
	for i := range turn {
		turn[i] = make([]int, places)
		turn[i][(i+1)%places] = 1
	}
	r := api.Rep{Base: api.MaxBase, First: make([]int, places), Steps: [][][]int{turn}, Last: make([]int, places)}
	for i := range places {
		r.First[i], r.Last[i] = i, i*i
	}
	for _, long := range []int{0, 1, 79, 80, 81, 399, api.MaxLong} {
		want := 0
		for i := range places {
			to := (i + long) % places
			want += i * to * to
		}
		wantEval(t, r, make([]int, long), want)
	}
}

// TestC2EvalWrong: what is wrong, in its order: all that comes behind is wrong, too.
func TestC2EvalWrong(t *testing.T) {
	tooLong := make([]int, api.MaxLong+1)
	tooLong[3] = -1
	broken := [][][]int{{{-1}}, {{1, 2}, {api.MaxCount + 1}}}
	for _, w := range [][]int{nil, {0}, {-1}, tooLong} {
		for _, base := range []int{math.MinInt, -1, 0, api.MaxBase + 1, math.MaxInt} {
			wantNoEval(t, api.Rep{Base: base, Tracks: 1}, w, api.ErrRange)
		}
		for _, base := range bases {
			for _, tracks := range []int{math.MinInt, -1, api.MaxTracks + 1, math.MaxInt} {
				wantNoEval(t, api.Rep{Base: base, Tracks: tracks}, w, api.ErrRange)
			}
			for tracks := len(letters[base]); tracks <= api.MaxTracks; tracks++ {
				wantNoEval(t, api.Rep{Base: base, Tracks: tracks}, w, api.ErrFull)
			}
		}
		wantNoEval(t, api.Rep{}, w, api.ErrRange)
		wantNoEval(t, api.Rep{Base: 2, Tracks: 1}, w, api.ErrNone)
		wantNoEval(t, api.Rep{Base: 2, Tracks: 1, Steps: broken, Last: []int{-1}}, w, api.ErrNone)
		wantNoEval(t, api.Rep{Base: 2, Tracks: 1, First: slices.Repeat([]int{-1}, api.MaxStates+1), Steps: broken, Last: []int{-1}}, w, api.ErrFull)
		for _, first := range []int{1, 2, api.MaxStates} {
			wantNoEval(t, api.Rep{Base: 2, Tracks: 1, First: slices.Repeat([]int{-1}, first), Steps: broken, Last: []int{-1}}, w, api.ErrShape)
		}
	}
}

// eachMisshapen calls f with what is like r, but has one list that is longer or shorter.
func eachMisshapen(r api.Rep, f func(r api.Rep)) {
	for _, n := range []int{0, len(r.Last) - 1, len(r.Last) + 1} {
		s := cloneRep(r)
		s.Last = make([]int, n)
		f(s)
	}
	for n := range len(r.Steps) {
		s := cloneRep(r)
		s.Steps = s.Steps[:n]
		f(s)
	}
	s := cloneRep(r)
	s.Steps = append(s.Steps, s.Steps[0])
	f(s)
	for x := range r.Steps {
		s := cloneRep(r)
		s.Steps[x] = s.Steps[x][1:]
		f(s)
		s = cloneRep(r)
		s.Steps[x] = append(s.Steps[x], s.Steps[x][0])
		f(s)
		s.Steps[x] = nil
		f(s)
		for at := range r.Steps[x] {
			s = cloneRep(r)
			s.Steps[x][at] = s.Steps[x][at][1:]
			f(s)
			s = cloneRep(r)
			s.Steps[x][at] = append(s.Steps[x][at], 0)
			f(s)
			s.Steps[x][at] = nil
			f(s)
		}
	}
}

// eachWith calls f with what is like r, but has n at one place.
func eachWith(r api.Rep, n int, f func(r api.Rep)) {
	for i := range r.First {
		s := cloneRep(r)
		s.First[i] = n
		f(s)
		s = cloneRep(r)
		s.Last[i] = n
		f(s)
		for x := range r.Steps {
			for at := range r.Steps[x] {
				s = cloneRep(r)
				s.Steps[x][at][i] = n
				f(s)
			}
		}
	}
}

// TestC2EvalWrongShapes: each list has just as many as it must have; that is said ahead of all that is wrong with numbers and words.
func TestC2EvalWrongShapes(t *testing.T) {
	source := rand.New(rand.NewSource(11))
	tooLong := make([]int, api.MaxLong+1)
	eachShape(func(base, tracks, many int) {
		for _, places := range []int{1, 2, 3} {
			for _, numbers := range [][]int{{0, 1, 2}, {-1}, {api.MaxCount + 1}, {api.MaxCount}} {
				eachMisshapen(filled(source, base, tracks, places, numbers), func(r api.Rep) {
					wantNoEval(t, r, []int{many - 1}, api.ErrShape)
					wantNoEval(t, r, []int{-1}, api.ErrShape)
					wantNoEval(t, r, tooLong, api.ErrShape)
				})
			}
		}
	})
}

// TestC2EvalWrongNumbers: each number is from 0 to MaxCount, whether it comes up or not; that is said ahead of all that is wrong with words.
func TestC2EvalWrongNumbers(t *testing.T) {
	source := rand.New(rand.NewSource(12))
	tooLong := make([]int, api.MaxLong+1)
	eachShape(func(base, tracks, many int) {
		r := filled(source, base, tracks, 3, []int{0, 1, api.MaxCount})
		for _, n := range []int{math.MinInt, -1, api.MaxCount + 1, math.MaxInt} {
			eachWith(r, n, func(r api.Rep) {
				wantNoEval(t, r, nil, api.ErrRange)
				wantNoEval(t, r, []int{0}, api.ErrRange)
				wantNoEval(t, r, []int{-1}, api.ErrRange)
				wantNoEval(t, r, tooLong, api.ErrRange)
			})
		}
		nothing := filled(source, base, tracks, 3, []int{0})
		for _, n := range []int{0, 1, api.MaxCount} {
			eachWith(nothing, n, func(r api.Rep) {
				wantEval(t, r, []int{0, many - 1}, 0)
			})
		}
	})
}

// TestC2EvalWrongWords: at most MaxLong letters, each of which is one; that is said ahead of what is too much.
func TestC2EvalWrongWords(t *testing.T) {
	source := rand.New(rand.NewSource(13))
	eachShape(func(base, tracks, many int) {
		for _, numbers := range [][]int{{0}, {api.MaxCount}} {
			r := filled(source, base, tracks, 2, numbers)
			for _, x := range []int{math.MinInt, -1, many, many + 1, math.MaxInt} {
				wantNoEval(t, r, []int{x}, api.ErrRange)
				wantNoEval(t, r, []int{0, 0, many - 1, x, 0}, api.ErrRange)
				w := make([]int, api.MaxLong+1)
				w[api.MaxLong-1] = x
				wantNoEval(t, r, w, api.ErrFull)
				wantNoEval(t, r, w[:api.MaxLong], api.ErrRange)
			}
			wantNoEval(t, r, make([]int, 2*api.MaxLong), api.ErrFull)
		}
		wantEval(t, filled(source, base, tracks, 2, []int{0}), slices.Repeat([]int{many - 1}, api.MaxLong), 0)
		wantNoEval(t, filled(source, base, tracks, 2, []int{0}), make([]int, api.MaxLong+1), api.ErrFull)
		wantNoEval(t, filled(source, base, tracks, 2, []int{api.MaxCount}), []int{many - 1}, api.ErrFull)
		wantNoEval(t, filled(source, base, tracks, 2, []int{api.MaxCount}), nil, api.ErrFull)
	})
}

// TestC1C2BehindTheLength: what lies behind a list's length is neither read nor written.
func TestC1C2BehindTheLength(t *testing.T) {
	row := []int{2, 1, 99}
	next := [][]int{row[:2], {2, 1}, {2, 2}, {-1}}
	ends := []bool{false, true, false, true}
	a := api.Auto{Base: 2, Tracks: 1, Next: next[:3], Ends: ends[:3]}
	wantLong(t, a, 5, 1)
	wantBelow(t, a, 8, 3)
	r, err := count.Rep(a, 0)
	if want := repOf(t, a, 0); err != nil || !sameRep(r, want) {
		t.Errorf("Rep: got %v %v, want %v", r, err, want)
	}
	if row[2] != 99 || len(next[3]) != 1 || next[3][0] != -1 || !ends[3] {
		t.Errorf("written into: %v %v %v", row, next, ends)
	}
	first, line, w := []int{1, 2, -7}, []int{1, 3, -7}, []int{0, 0, -7}
	rows := [][]int{line[:2], {0, 1}, {-7}}
	steps := [][][]int{rows[:2], {{-7}}}
	last := []int{1, 1, -7}
	wantEval(t, api.Rep{Base: 2, First: first[:2], Steps: steps[:1], Last: last[:2]}, w[:2], 1+2+6)
	if first[2] != -7 || line[2] != -7 || w[2] != -7 || rows[2][0] != -7 || steps[1][0][0] != -7 || last[2] != -7 {
		t.Errorf("written into: %v %v %v %v %v %v", first, line, w, rows, steps, last)
	}
}

// spoil writes over a list, and what lies behind its length.
func spoil(list []int) {
	for i := range list[:cap(list)] {
		list[:cap(list)][i] = -77
	}
}

// TestC1C2FreshMemory: what comes out is the caller's, no two lists share any, and nothing that is handed in is written into.
func TestC1C2FreshMemory(t *testing.T) {
	source := rand.New(rand.NewSource(14))
	a := wild(source, 3, 2, 5, 2)
	before := clone(a)
	for _, c := range []struct {
		spoil func(r api.Rep)
		lists int
	}{
		{func(r api.Rep) { spoil(r.First) }, 1},
		{func(r api.Rep) { spoil(r.Last) }, 1},
		{func(r api.Rep) { spoil(r.Steps[1][2]) }, 1},
		{func(r api.Rep) { spoil(r.Steps[0][4]) }, 1},
		{func(r api.Rep) { clear(r.Steps[1][:cap(r.Steps[1])]) }, 5},
	} {
		r, err := count.Rep(a, 1)
		if err != nil {
			t.Fatal(err)
		}
		want := cloneRep(r)
		c.spoil(r)
		changed := 0
		for i, list := range lists(r) {
			if !slices.Equal(list, lists(want)[i]) {
				changed++
			}
		}
		if changed != c.lists {
			t.Errorf("%d lists changed: %v, was %v", changed, r, want)
		}
		if again, err := count.Rep(a, 1); err != nil || !sameRep(again, want) {
			t.Errorf("got %v %v, want %v", again, err, want)
		}
	}
	r := filled(source, 3, 1, 4, []int{0, 1, 2, 3})
	was, w := cloneRep(r), []int{0, 2, 1}
	want, _ := evalBig(r, w)
	wantEval(t, r, w, int(want.Int64()))
	wantEval(t, r, w, int(want.Int64()))
	wantBelow(t, three, 1000, 334)
	wantLong(t, three, 4, 6)
	if !equal(a, before) || !sameRep(r, was) || !slices.Equal(w, []int{0, 2, 1}) {
		t.Errorf("written into: %v %v %v", a, r, w)
	}
}

// lists: all lists of numbers.
func lists(r api.Rep) [][]int {
	all := [][]int{r.First, r.Last}
	for _, step := range r.Steps {
		all = append(all, step...)
	}
	return all
}
