package line_test

import (
	"math"
	"math/big"
	"math/rand"
	"slices"
	"testing"

	"filbert/api"
	"filbert/auto"
	"filbert/letter"
	"filbert/line"
	"filbert/pair"
	"filbert/plain"
	"filbert/right"
	"filbert/some"
	"filbert/track"
)

var bases = []int{api.Fib, 2, 3, 4, 5, api.MaxBase}

// letters: of each base, how many there are of so many tracks.
var letters = map[int][]int{
	api.Fib: {1, 2, 4, 8, 16, 32},
	2:       {1, 2, 4, 8, 16, 32},
	3:       {1, 3, 9, 27},
	4:       {1, 4, 16},
	5:       {1, 5, 25},
	6:       {1, 6, 36},
}

// eachShape calls f with every base and every count of tracks that go together.
func eachShape(f func(base, tracks, many int)) {
	for _, base := range bases {
		for tracks, many := range letters[base] {
			f(base, tracks, many)
		}
	}
}

func clone(a api.Auto) api.Auto {
	b := a
	b.Ends = slices.Clone(a.Ends)
	b.Next = nil
	for _, nexts := range a.Next {
		b.Next = append(b.Next, slices.Clone(nexts))
	}
	return b
}

func equal(a, b api.Auto) bool {
	return a.Base == b.Base && a.Tracks == b.Tracks && slices.Equal(a.Ends, b.Ends) && slices.EqualFunc(a.Next, b.Next, slices.Equal)
}

// empty: an automaton of which all is 0 or nil, as it comes with an error.
func empty(a api.Auto) bool {
	return a.Base == 0 && a.Tracks == 0 && a.Next == nil && a.Ends == nil
}

// must have come without an error.
func must(t *testing.T) func(a api.Auto, err error) api.Auto {
	return func(a api.Auto, err error) api.Auto {
		t.Helper()
		if err != nil {
			t.Fatal(err)
		}
		return a
	}
}

func of(t *testing.T, base int, coefs []int, c int, less bool) api.Auto {
	t.Helper()
	was := slices.Clone(coefs)
	got, err := line.Of(base, coefs, c, less)
	if err != nil {
		t.Fatalf("Of(%d, %v, %d, %v): %v", base, coefs, c, less, err)
	}
	if !slices.Equal(coefs, was) {
		t.Fatalf("%v was written into: %v", was, coefs)
	}
	return got
}

func wantOf(t *testing.T, base int, coefs []int, c int, less bool, want api.Auto) {
	t.Helper()
	if got := of(t, base, coefs, c, less); !equal(got, want) {
		t.Errorf("Of(%d, %v, %d, %v): got %v, want %v", base, coefs, c, less, got, want)
	}
}

func wantNoOf(t *testing.T, base int, coefs []int, c int, errno api.Errno) {
	t.Helper()
	for _, less := range []bool{false, true} {
		if got, err := line.Of(base, coefs, c, less); !empty(got) || plain.Told(err) != errno {
			t.Errorf("Of(%d, %v, %d, %v): got %v %v, want %v", base, coefs, c, less, got, err, errno)
		}
	}
}

func wantHolds(t *testing.T, coefs []int, c int, less bool, nums []int, want bool) {
	t.Helper()
	wasCoefs, wasNums := slices.Clone(coefs), slices.Clone(nums)
	if got, err := line.Holds(coefs, c, less, nums); got != want || err != nil {
		t.Errorf("Holds(%v, %d, %v, %v): got %v %v, want %v", coefs, c, less, nums, got, err, want)
	}
	if !slices.Equal(coefs, wasCoefs) || !slices.Equal(nums, wasNums) {
		t.Errorf("%v or %v was written into: %v, %v", wasCoefs, wasNums, coefs, nums)
	}
}

func wantNoHolds(t *testing.T, coefs []int, c int, nums []int, errno api.Errno) {
	t.Helper()
	for _, less := range []bool{false, true} {
		if got, err := line.Holds(coefs, c, less, nums); got || plain.Told(err) != errno {
			t.Errorf("Holds(%v, %d, %v, %v): got %v %v, want %v", coefs, c, less, nums, got, err, errno)
		}
	}
}

func takes(t *testing.T, a api.Auto, w []int) bool {
	t.Helper()
	ok, err := auto.Takes(a, w)
	if err != nil {
		t.Fatalf("Takes(%v, %v): %v", a, w, err)
	}
	return ok
}

// eachWord calls f with all words of so many kinds of letters, up to so long.
func eachWord(many, long int, f func(w []int)) {
	var from func(w []int)
	from = func(w []int) {
		f(w)
		if len(w) < long {
			for x := range many {
				from(append(slices.Clone(w), x))
			}
		}
	}
	from(nil)
}

// longest: so long words are not too many, of so many kinds of letters.
func longest(many int) int {
	switch {
	case many <= 2:
		return 10
	case many <= 4:
		return 6
	case many <= 9:
		return 4
	}
	return 2
}

// spot is how far a sum has come: beyond is its sign, once it is so far away that it never comes back.
type spot struct {
	sum, ahead, beyond, last int
	wrong                    bool
}

// rise tells what a letter's digits count, each times its coefficient.
func rise(coefs []int, kinds, x int) int {
	sum := 0
	for track := len(coefs) - 1; track >= 0; track-- {
		sum += coefs[track] * (x % kinds)
		x /= kinds
	}
	return sum
}

// walk goes on from a spot by a letter, in a way that has more spots than it needs.
func walk(base int, coefs []int, at spot, x int) spot {
	if base != api.Fib {
		if at.beyond != 0 {
			return at
		}
		// What counts up to 12 times n on so many places as make it n + 1 times as much never brings back what is above 100.
		to := spot{sum: at.sum*base + rise(coefs, base, x)}
		if to.sum > 100 || to.sum < -100 {
			return spot{beyond: to.sum}.only()
		}
		return to
	}
	if at.wrong || at.last&x != 0 {
		return spot{wrong: true}
	}
	if at.beyond != 0 {
		return spot{beyond: at.beyond, last: x}
	}
	r := rise(coefs, 2, x)
	to := spot{sum: at.sum + at.ahead + r, ahead: at.sum + r, last: x}
	// By each letter this becomes 1.618 times as much, and at most 12 times 2618 less or more.
	if big := 1618*to.sum + 1000*to.ahead; big > 250_000 || big < -250_000 {
		return spot{beyond: big, last: x}.only()
	}
	return to
}

// only the sign of what is beyond counts.
func (s spot) only() spot {
	s.beyond = max(-1, min(1, s.beyond))
	return s
}

// taken tells whether a word that leads to a spot is to be taken.
func (s spot) taken(c int, less bool) bool {
	switch {
	case s.wrong:
		return false
	case s.beyond != 0:
		return less && s.beyond < 0
	case less:
		return s.sum+c < 0
	}
	return s.sum+c == 0
}

// wide makes an automaton of all spots.
func wide(base int, coefs []int, c int, less bool) api.Auto {
	a := api.Auto{Base: base, Tracks: len(coefs)}
	numbers := map[spot]int{{}: 0}
	for spots := []spot{{}}; len(spots) > 0; spots = spots[1:] {
		row := make([]int, letters[base][len(coefs)])
		for x := range row {
			to := walk(base, coefs, spots[0], x)
			if _, met := numbers[to]; !met {
				numbers[to] = len(numbers)
				spots = append(spots, to)
			}
			row[x] = numbers[to]
		}
		a.Next = append(a.Next, row)
		a.Ends = append(a.Ends, spots[0].taken(c, less))
	}
	return a
}

// fewest makes one state of those from which the same words are taken, however many are left; of an automaton whose states stand in the order in which they are met.
func fewest(a api.Auto) api.Auto {
	class := make([]int, len(a.Next))
	for state, ends := range a.Ends {
		if ends {
			class[state] = 1
		}
	}
	var first []int
	for before := -1; before != len(first); {
		before, first = len(first), nil
		numbers := map[[api.MaxLetters + 1]int]int{}
		finer := make([]int, len(class))
		for state, row := range a.Next {
			mark := [api.MaxLetters + 1]int{api.MaxLetters: class[state]}
			for x, next := range row {
				mark[x] = class[next]
			}
			if _, met := numbers[mark]; !met {
				numbers[mark] = len(first)
				first = append(first, state)
			}
			finer[state] = numbers[mark]
		}
		class = finer
	}
	few := api.Auto{Base: a.Base, Tracks: a.Tracks}
	for _, state := range first {
		row := make([]int, len(a.Next[state]))
		for x, next := range a.Next[state] {
			row[x] = class[next]
		}
		few.Next = append(few.Next, row)
		few.Ends = append(few.Ends, a.Ends[state])
	}
	return few
}

// wantSum: the least automaton of a sum, or ErrFull; tells how many states it is to have.
func wantSum(t *testing.T, base int, coefs []int, c int, less bool) int {
	t.Helper()
	want := fewest(wide(base, coefs, c, less))
	if len(want.Next) <= api.MaxStates {
		wantOf(t, base, coefs, c, less, want)
	} else if got, err := line.Of(base, coefs, c, less); !empty(got) || plain.Told(err) != api.ErrFull {
		t.Errorf("Of(%d, %v, %d, %v): got %v %v, want ErrFull", base, coefs, c, less, got, err)
	}
	return len(want.Next)
}

// wild: coefficients of so many tracks, without signs together at most so many.
func wild(source *rand.Rand, tracks, most int) []int {
	coefs := make([]int, tracks)
	left := most
	for _, track := range source.Perm(tracks) {
		coefs[track] = source.Intn(left + 1)
		left -= coefs[track]
		if source.Intn(2) == 0 {
			coefs[track] = -coefs[track]
		}
	}
	return coefs
}

// few: coefficients so small that there are not too many states, if c is small, too.
func few(source *rand.Rand, base, tracks int) []int {
	if base == api.Fib && tracks > 2 {
		return wild(source, tracks, 1)
	}
	return wild(source, tracks, 4)
}

func TestE1Examples(t *testing.T) {
	wantOf(t, 2, []int{1, 1, -1}, 0, false, api.Auto{Base: 2, Tracks: 3, Next: [][]int{
		{0, 1, 2, 0, 2, 0, 2, 2},
		{2, 2, 1, 2, 1, 2, 0, 1},
		{2, 2, 2, 2, 2, 2, 2, 2},
	}, Ends: []bool{true, false, false}})
	wantOf(t, 2, nil, 0, false, api.Auto{Base: 2, Next: [][]int{{0}}, Ends: []bool{true}})
	wantNoOf(t, 2, []int{13}, 0, api.ErrRange)
	wantHolds(t, []int{1, -2}, 0, false, []int{8, 4}, true)
	// x is 5.
	wantOf(t, 2, []int{1}, -5, false, api.Auto{Base: 2, Tracks: 1, Next: [][]int{{0, 1}, {2, 3}, {3, 4}, {3, 3}, {3, 3}}, Ends: []bool{false, false, false, false, true}})
	wantOf(t, api.Fib, []int{1}, -5, false, api.Auto{Base: api.Fib, Tracks: 1, Next: [][]int{{0, 1}, {2, 3}, {4, 3}, {3, 3}, {5, 3}, {3, 3}}, Ends: []bool{false, false, false, false, false, true}})
	// x is below y.
	wantOf(t, 3, []int{1, -1}, 0, true, api.Auto{Base: 3, Tracks: 2, Next: [][]int{
		{0, 1, 1, 2, 0, 1, 2, 2, 0},
		{1, 1, 1, 1, 1, 1, 1, 1, 1},
		{2, 2, 2, 2, 2, 2, 2, 2, 2},
	}, Ends: []bool{false, true, false}})
	// x is y: of Fib also what was read last counts.
	wantOf(t, api.Fib, []int{1, -1}, 0, false, api.Auto{Base: api.Fib, Tracks: 2, Next: [][]int{
		{0, 1, 1, 2},
		{1, 1, 1, 1},
		{0, 1, 1, 1},
	}, Ends: []bool{true, false, true}})
}

// TestE1EachSum: coefficients of each shape, held against a way of making it that has more points than it needs.
func TestE1EachSum(t *testing.T) {
	source := rand.New(rand.NewSource(1))
	eachShape(func(base, tracks, many int) {
		for range 40 {
			coefs := wild(source, tracks, 1+source.Intn(api.MaxSum))
			// Of Fib many tracks become too many states soon.
			if base == api.Fib && tracks > 2 {
				coefs = wild(source, tracks, 1+source.Intn(4))
			}
			c := source.Intn(2*api.MaxConst+1) - api.MaxConst
			if source.Intn(2) == 0 {
				c /= 10
			}
			wantSum(t, base, coefs, c, source.Intn(2) == 0)
		}
	})
}

// TestE1EachOfOneTrack: every coefficient and every constant.
func TestE1EachOfOneTrack(t *testing.T) {
	for _, base := range bases {
		for coef := -api.MaxSum; coef <= api.MaxSum; coef++ {
			for c := -api.MaxConst; c <= api.MaxConst; c++ {
				if base != api.Fib && coef%3 != 0 && c%7 != 0 {
					continue
				}
				wantSum(t, base, []int{coef}, c, false)
				wantSum(t, base, []int{coef}, c, true)
			}
		}
	}
}

// TestE1NoTrack: nothing is added but c.
func TestE1NoTrack(t *testing.T) {
	for _, base := range bases {
		for c := -api.MaxConst; c <= api.MaxConst; c++ {
			for _, coefs := range [][]int{nil, {}} {
				wantOf(t, base, coefs, c, false, api.Auto{Base: base, Next: [][]int{{0}}, Ends: []bool{c == 0}})
				wantOf(t, base, coefs, c, true, api.Auto{Base: base, Next: [][]int{{0}}, Ends: []bool{c < 0}})
				wantHolds(t, coefs, c, false, nil, c == 0)
				wantHolds(t, coefs, c, true, []int{}, c < 0)
			}
		}
	}
}

// TestE1NothingCounts: with 0s alone each right word is taken, or none.
func TestE1NothingCounts(t *testing.T) {
	eachShape(func(base, tracks, many int) {
		all := must(t)(right.All(base, tracks))
		none := api.Auto{Base: base, Tracks: tracks, Next: [][]int{make([]int, many)}, Ends: []bool{false}}
		for _, c := range []int{-api.MaxConst, -1, 0, 1, api.MaxConst} {
			eq, lt := none, none
			if c == 0 {
				eq = all
			}
			if c < 0 {
				lt = all
			}
			wantOf(t, base, make([]int, tracks), c, false, eq)
			wantOf(t, base, make([]int, tracks), c, true, lt)
		}
	})
}

// TestE1AllWords: a short word is taken just if it is right and it holds of its numbers.
func TestE1AllWords(t *testing.T) {
	source := rand.New(rand.NewSource(2))
	eachShape(func(base, tracks, many int) {
		for i := range 8 {
			coefs, c, less := few(source, base, tracks), source.Intn(5)-2, i%2 == 0
			got := of(t, base, coefs, c, less)
			eachWord(many, longest(many), func(w []int) {
				want, err := letter.Right(base, tracks, w)
				if err != nil {
					t.Fatal(err)
				}
				if want {
					nums, err := letter.Nums(base, tracks, w)
					if err != nil {
						t.Fatal(err)
					}
					sum := c
					for track, n := range nums {
						sum += coefs[track] * n
					}
					want = sum == 0 && !less || sum < 0 && less
					wantHolds(t, coefs, c, less, nums, want)
				}
				if takes(t, got, w) != want {
					t.Fatalf("Of(%d, %v, %d, %v): %v: got %v", base, coefs, c, less, w, !want)
				}
			})
		}
	})
}

// TestE1Numbers: great numbers in each base, near where the sum is 0, and with 0s ahead.
func TestE1Numbers(t *testing.T) {
	source := rand.New(rand.NewSource(3))
	for _, c := range []struct {
		coefs []int
		c     int
	}{
		{[]int{1}, -60}, {[]int{1, -1}, 0}, {[]int{1, -1}, 13}, {[]int{-1, 1}, -40}, {[]int{1, -2}, 3}, {[]int{1, -5}, -1},
		{[]int{1, 1}, -60}, {[]int{1, 1, -1}, 0}, {[]int{1, -1, -1}, 2}, {[]int{1, -1, -2}, 0}, {[]int{1, -11}, 0},
	} {
		for _, base := range bases {
			if len(c.coefs) >= len(letters[base]) {
				continue
			}
			eq, eqErr := line.Of(base, c.coefs, c.c, false)
			lt, ltErr := line.Of(base, c.coefs, c.c, true)
			if base != api.Fib && (eqErr != nil || ltErr != nil) {
				t.Errorf("base %d: %v is too much", base, c)
			}
			for range 60 {
				nums := make([]int, len(c.coefs))
				near := -c.c
				for track := 1; track < len(nums); track++ {
					nums[track] = source.Intn(1 << source.Intn(37))
					near -= c.coefs[track] * nums[track]
				}
				// The first number makes the sum 0, or nearly so.
				nums[0] = max(0, near*c.coefs[0]+source.Intn(5)-2)
				sum := c.c
				for track, n := range nums {
					sum += c.coefs[track] * n
				}
				wantHolds(t, c.coefs, c.c, false, nums, sum == 0)
				wantHolds(t, c.coefs, c.c, true, nums, sum < 0)
				w, err := letter.Word(base, nums)
				if err != nil {
					t.Fatal(err)
				}
				w = append(make([]int, source.Intn(3)), w...)
				if eqErr == nil && takes(t, eq, w) != (sum == 0) {
					t.Errorf("Of(%d, %v, %d, false): %v: got %v", base, c.coefs, c.c, nums, sum != 0)
				}
				if ltErr == nil && takes(t, lt, w) != (sum < 0) {
					t.Errorf("Of(%d, %v, %d, true): %v: got %v", base, c.coefs, c.c, nums, sum >= 0)
				}
			}
		}
	}
}

// digitsOf: the digits of a number of any size on so many places; of Fib without two 1s side by side.
func digitsOf(base int, n *big.Int, long int) []int {
	places := make([]*big.Int, long)
	last, ahead := big.NewInt(1), big.NewInt(1)
	for i := long - 1; i >= 0; i-- {
		places[i] = last
		more := new(big.Int).Mul(last, big.NewInt(int64(base)))
		if base == api.Fib {
			more.Add(last, ahead)
		}
		last, ahead = more, last
	}
	d := make([]int, long)
	left := new(big.Int).Set(n)
	for i, place := range places {
		digit, rest := new(big.Int).DivMod(left, place, new(big.Int))
		d[i], left = int(digit.Int64()), rest
	}
	return d
}

// wordOf: the digits of numbers of any size side by side on so many places.
func wordOf(base int, nums []*big.Int, long int) []int {
	w := make([]int, long)
	for _, n := range nums {
		for i, d := range digitsOf(base, n, long) {
			w[i] = w[i]*max(base, 2) + d
		}
	}
	return w
}

// TestE1OfWhateverSize: numbers far above MaxNum.
func TestE1OfWhateverSize(t *testing.T) {
	source := rand.New(rand.NewSource(4))
	for _, base := range bases {
		eq, lt := of(t, base, []int{1, -1}, 9, false), of(t, base, []int{1, -1}, 9, true)
		twice := of(t, base, []int{1, -2}, -1, false)
		for range 50 {
			x := new(big.Int).Rand(source, new(big.Int).Lsh(big.NewInt(1), 200))
			for more := int64(7); more <= 11; more++ {
				y := new(big.Int).Add(x, big.NewInt(more))
				w := wordOf(base, []*big.Int{x, y}, api.MaxLong)
				if takes(t, eq, w) != (more == 9) {
					t.Errorf("base %d: %v + 9 is %v: got %v", base, x, y, more != 9)
				}
				if takes(t, lt, w) != (more > 9) {
					t.Errorf("base %d: %v + 9 is below %v: got %v", base, x, y, more <= 9)
				}
			}
			for more := int64(-1); more <= 3; more++ {
				y := new(big.Int).Add(new(big.Int).Lsh(x, 1), big.NewInt(more))
				if more < 0 && y.Sign() < 0 {
					continue
				}
				if takes(t, twice, wordOf(base, []*big.Int{y, x}, api.MaxLong)) != (more == 1) {
					t.Errorf("base %d: %v is twice %v and 1: got %v", base, y, x, more != 1)
				}
			}
		}
	}
}

// TestE1OtherWayRound: what is not below 0 is, with all signs turned, below 1; and what is 0 is below 1, but not below 0.
func TestE1OtherWayRound(t *testing.T) {
	source := rand.New(rand.NewSource(5))
	eachShape(func(base, tracks, _ int) {
		for range 10 {
			coefs, c := few(source, base, tracks), source.Intn(3)-1
			turned := make([]int, tracks)
			for track, coef := range coefs {
				turned[track] = -coef
			}
			lt, eq := of(t, base, coefs, c, true), of(t, base, coefs, c, false)
			wantOf(t, base, turned, -c, false, eq)
			wantOf(t, base, turned, -c-1, true, must(t)(right.Flip(lt)))
			below1 := of(t, base, coefs, c-1, true)
			if got := must(t)(pair.Both(below1, lt, 2)); !equal(got, eq) {
				t.Errorf("base %d, %v, %d: below 1 and not below 0 is %v, 0 is %v", base, coefs, c, got, eq)
			}
		}
	})
}

// TestE1Tracks: each track has its own coefficient, whichever comes first; one whose coefficient is 0 may be left out, and one on which 0 stands.
func TestE1Tracks(t *testing.T) {
	for _, base := range bases {
		for _, less := range []bool{false, true} {
			a := of(t, base, []int{1, -2}, 1, less)
			swapped := must(t)(track.Spread(a, 2, []int{1, 0}))
			wantOf(t, base, []int{-2, 1}, 1, less, swapped)
			wantOf(t, base, []int{-2}, 1, less, must(t)(track.Fix(a, 0, 0)))
			wantOf(t, base, []int{1}, 1, less, must(t)(track.Fix(a, 1, 0)))
			one := of(t, base, []int{3}, -7, less)
			wantOf(t, base, []int{3}, -7, less, must(t)(some.Some(of(t, base, []int{3, 0}, -7, less), 1)))
			spread := must(t)(right.Only(must(t)(track.Spread(one, 2, []int{1}))))
			wantOf(t, base, []int{0, 3}, -7, less, spread)
		}
	}
}

// TestE1Compose: x + y is z and z + 1 is twice u, for some z.
func TestE1Compose(t *testing.T) {
	for _, base := range []int{api.Fib, 2} {
		sum := must(t)(track.Spread(of(t, base, []int{1, 1, -1}, 0, false), 4, []int{0, 1, 2}))
		twice := must(t)(track.Spread(of(t, base, []int{1, -2}, 1, false), 4, []int{2, 3}))
		both, err := pair.Both(sum, twice, 8)
		if base == api.Fib {
			// Of four tracks of Fib it is too much.
			if plain.Told(err) != api.ErrFull {
				t.Errorf("got %v %v", both, err)
			}
			continue
		}
		got := must(t)(some.Close(must(t)(some.Some(must(t)(both, err), 2))))
		wantOf(t, base, []int{1, 1, -2}, 1, false, got)
	}
	// Of Fib, x is y + 1 and y is z + 1, for some y.
	first := must(t)(track.Spread(of(t, api.Fib, []int{1, -1}, -1, false), 3, []int{0, 1}))
	second := must(t)(track.Spread(of(t, api.Fib, []int{1, -1}, -1, false), 3, []int{1, 2}))
	got := must(t)(some.Close(must(t)(some.Some(must(t)(pair.Both(first, second, 8)), 1))))
	wantOf(t, api.Fib, []int{1, -1}, -2, false, got)
}

// TestE1MaxStates: so many states it may have, but not one more.
func TestE1MaxStates(t *testing.T) {
	for _, c := range []struct {
		coefs  []int
		c      int
		less   bool
		states int
	}{
		{[]int{-3, 1, 1}, 2, false, 79},
		{[]int{-2, 0, 1}, 6, true, 79},
		{[]int{-3, -1, -1}, 21, true, api.MaxStates},
		{[]int{-3, -1, 0}, 53, false, api.MaxStates},
		{[]int{-10, 2}, -14, true, api.MaxStates + 1},
		{[]int{-2, -1, 0}, 23, true, api.MaxStates + 1},
		{[]int{-1, -1, 1}, 12, false, api.MaxStates + 1},
		{[]int{-9, 3}, 39, true, 82},
	} {
		if got := wantSum(t, api.Fib, c.coefs, c.c, c.less); got != c.states {
			t.Errorf("%v: %d states", c, got)
		}
	}
	wantNoOf(t, api.Fib, []int{3, 3, -2, 2, -2}, -60, api.ErrFull)
	wantNoOf(t, api.Fib, []int{-11, 1, 0, 0, 0}, 60, api.ErrFull)
	// It is the least automaton that counts: here there are far more points.
	if got := wantSum(t, api.Fib, []int{7, 4, 1}, -60, false); got > api.MaxStates {
		t.Errorf("%d states", got)
	}
}

// TestE1Edges: as much as may be, in each base.
func TestE1Edges(t *testing.T) {
	for _, base := range bases {
		for _, coefs := range [][]int{{api.MaxSum}, {-api.MaxSum}, {6, -6}, {0, api.MaxSum}, {-11, 1}, {11, 1}} {
			for _, c := range []int{-api.MaxConst, api.MaxConst} {
				wantSum(t, base, coefs, c, false)
				wantSum(t, base, coefs, c, true)
			}
		}
	}
	for _, coefs := range [][]int{{3, 3, 2, 2, 2}, {-3, 3, -2, 2, -2}, {12, 0, 0, 0, 0}, {0, 0, 0, 0, -12}} {
		wantSum(t, 2, coefs, api.MaxConst, false)
		wantSum(t, 2, coefs, -api.MaxConst, true)
	}
}

// TestE1WrongOf: errors of Many, then what is too much, in this order.
func TestE1WrongOf(t *testing.T) {
	tooMuch := [][]int{{13}, {-13}, {12, 1}, {-12, -1}, {12, -1}, {7, -6}, {math.MinInt}, {math.MaxInt}, {math.MinInt, math.MinInt}, {math.MaxInt, 1}, {math.MinInt, math.MaxInt}, {1 << 62, 1 << 62}}
	for _, base := range []int{math.MinInt, -1, 0, api.MaxBase + 1, math.MaxInt} {
		for _, coefs := range [][]int{nil, {1}, {13}, make([]int, 6), make([]int, 100)} {
			wantNoOf(t, base, coefs, 0, api.ErrRange)
			wantNoOf(t, base, coefs, 61, api.ErrRange)
		}
	}
	for _, base := range bases {
		for _, coefs := range tooMuch {
			wantNoOf(t, base, coefs, 0, api.ErrRange)
			wantNoOf(t, base, coefs, math.MinInt, api.ErrRange)
		}
		for _, c := range []int{math.MinInt, -61, 61, math.MaxInt} {
			for _, coefs := range [][]int{nil, {1}, {1, -1}, {api.MaxSum}} {
				wantNoOf(t, base, coefs, c, api.ErrRange)
			}
		}
		wantNoOf(t, base, make([]int, api.MaxTracks+1), 0, api.ErrRange)
		wantNoOf(t, base, make([]int, 1000), 0, api.ErrRange)
		// Too many letters come ahead of what is too much.
		for tracks := len(letters[base]); tracks <= api.MaxTracks; tracks++ {
			coefs := make([]int, tracks)
			wantNoOf(t, base, coefs, 0, api.ErrFull)
			coefs[0] = 13
			wantNoOf(t, base, coefs, 0, api.ErrFull)
			wantNoOf(t, base, coefs, 61, api.ErrFull)
		}
	}
	// 2 to the power of 64, parted by 8: eight of them wrap round to 0, but as many tracks are not.
	wantNoOf(t, 2, []int{1 << 61, 1 << 61, 1 << 61, 1 << 61, 1 << 61}, 0, api.ErrRange)
	wantNoOf(t, 2, []int{1 << 62, 1 << 62, 1 << 62, 1 << 62}, 0, api.ErrRange)
	// What is too much comes ahead of too many states.
	wantNoOf(t, api.Fib, []int{3, 3, -2, 2, -3}, -60, api.ErrRange)
	wantNoOf(t, api.Fib, []int{3, 3, -2, 2, -2}, -61, api.ErrRange)
}

// TestE1Holds: numbers, the greatest among them.
func TestE1Holds(t *testing.T) {
	for _, c := range []struct {
		coefs []int
		c     int
		nums  []int
		sum   int
	}{
		{[]int{1, -2}, 0, []int{8, 4}, 0},
		{[]int{1, -2}, 0, []int{7, 4}, -1},
		{[]int{1, -2}, 0, []int{9, 4}, 1},
		{[]int{12}, -60, []int{5}, 0},
		{[]int{12}, -60, []int{4}, -12},
		{[]int{-12}, 60, []int{5}, 0},
		{[]int{12}, -60, []int{api.MaxNum}, 12*api.MaxNum - 60},
		{[]int{-12}, 60, []int{api.MaxNum}, 60 - 12*api.MaxNum},
		{[]int{1, -1}, 0, []int{api.MaxNum, api.MaxNum}, 0},
		{[]int{1, -1}, 1, []int{api.MaxNum - 1, api.MaxNum}, 0},
		{[]int{6, -6}, 0, []int{api.MaxNum, 0}, 6 * api.MaxNum},
		{[]int{6, -6}, 0, []int{0, api.MaxNum}, -6 * api.MaxNum},
		{[]int{3, -3, 2, -2, 2}, 5, []int{1, 2, 3, 4, 5}, 10},
		{[]int{0, 0, 0, 0, 0}, 0, []int{1, 2, 3, 4, 5}, 0},
		{[]int{2, 2, 2, 2, 4}, -60, []int{api.MaxNum, api.MaxNum, api.MaxNum, api.MaxNum, api.MaxNum}, 12*api.MaxNum - 60},
	} {
		wantHolds(t, c.coefs, c.c, false, c.nums, c.sum == 0)
		wantHolds(t, c.coefs, c.c, true, c.nums, c.sum < 0)
	}
}

// TestE1WrongHolds: what is wrong, in its order. No base bounds the tracks here.
func TestE1WrongHolds(t *testing.T) {
	six := make([]int, api.MaxTracks+1)
	wantNoHolds(t, six, 0, six, api.ErrRange)
	wantNoHolds(t, six, 61, nil, api.ErrRange)
	wantNoHolds(t, make([]int, 1000), 0, nil, api.ErrRange)
	for _, coefs := range [][]int{{13}, {-13}, {12, 1}, {7, -6}, {math.MinInt}, {math.MaxInt}, {math.MinInt, math.MinInt}, {math.MaxInt, 1}, {1 << 62, 1 << 62, 1 << 62, 1 << 62}} {
		wantNoHolds(t, coefs, 0, make([]int, len(coefs)), api.ErrRange)
		wantNoHolds(t, coefs, 0, nil, api.ErrRange)
		wantNoHolds(t, coefs, 0, slices.Repeat([]int{-1}, len(coefs)), api.ErrRange)
	}
	for _, c := range []int{math.MinInt, -61, 61, math.MaxInt} {
		wantNoHolds(t, []int{1}, c, []int{1}, api.ErrRange)
		wantNoHolds(t, []int{1}, c, nil, api.ErrRange)
		wantNoHolds(t, nil, c, nil, api.ErrRange)
	}
	wantNoHolds(t, nil, 0, []int{0}, api.ErrShape)
	wantNoHolds(t, []int{1}, 0, nil, api.ErrShape)
	wantNoHolds(t, []int{1}, 0, []int{-1, -1}, api.ErrShape)
	wantNoHolds(t, []int{1, 2, 3}, 60, []int{1, -1}, api.ErrShape)
	wantNoHolds(t, []int{1, 2, 3}, -60, make([]int, 1000), api.ErrShape)
	for _, n := range []int{math.MinInt, -1, api.MaxNum + 1, math.MaxInt} {
		wantNoHolds(t, []int{1}, 0, []int{n}, api.ErrRange)
		// Also where its coefficient is 0.
		wantNoHolds(t, []int{1, 0}, 0, []int{1, n}, api.ErrRange)
		wantNoHolds(t, []int{0, 1}, 0, []int{n, 1}, api.ErrRange)
	}
}

// TestE1BehindTheLength: what lies behind a list's length is neither read nor written.
func TestE1BehindTheLength(t *testing.T) {
	coefs, nums := []int{1, -1, 99, math.MinInt}, []int{4, 5, -1, 99}
	want := of(t, 2, []int{1, -1}, 1, false)
	wantOf(t, 2, coefs[:2], 1, false, want)
	wantHolds(t, coefs[:2], 1, false, nums[:2], true)
	wantHolds(t, coefs[:2], 1, true, nums[:2], false)
	wantNoHolds(t, coefs[:2], 1, nums[:1], api.ErrShape)
	if !slices.Equal(coefs, []int{1, -1, 99, math.MinInt}) || !slices.Equal(nums, []int{4, 5, -1, 99}) {
		t.Errorf("written into: %v %v", coefs, nums)
	}
}

// scribble writes into all memory of an automaton, list by list, also behind the lengths; no list of it shares any with another.
func scribble(t *testing.T, a api.Auto) {
	t.Helper()
	was := clone(a)
	for state, nexts := range a.Next {
		for i := range nexts[:cap(nexts)] {
			nexts[:cap(nexts)][i] = 77
		}
		for behind := state + 1; behind < len(a.Next); behind++ {
			if !slices.Equal(a.Next[behind], was.Next[behind]) {
				t.Fatalf("states %d and %d share memory", state, behind)
			}
		}
	}
	for i := range a.Next[:cap(a.Next)] {
		a.Next[:cap(a.Next)][i] = nil
	}
	for i := range a.Ends[:cap(a.Ends)] {
		a.Ends[:cap(a.Ends)][i] = !a.Ends[:cap(a.Ends)][i]
	}
}

// TestE1FreshMemory: what comes out is the caller's.
func TestE1FreshMemory(t *testing.T) {
	eachShape(func(base, tracks, _ int) {
		coefs := make([]int, tracks)
		for track := range coefs {
			coefs[track] = 1 - track%2
		}
		for _, less := range []bool{false, true} {
			got := of(t, base, coefs, -1, less)
			was := clone(got)
			scribble(t, got)
			wantOf(t, base, coefs, -1, less, was)
		}
	})
}
