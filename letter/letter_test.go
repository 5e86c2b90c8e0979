package letter_test

import (
	"math"
	"math/rand"
	"slices"
	"testing"

	"filbert/api"
	"filbert/digit"
	"filbert/letter"
	"filbert/plain"
)

var bases = []int{api.Fib, 2, 3, 4, 5, api.MaxBase}

var noBases = []int{math.MinInt, -2, -1, 0, api.MaxBase + 1, 8, 10, math.MaxInt}

var noTracks = []int{math.MinInt, -1, api.MaxTracks + 1, 64, math.MaxInt}

// most: how many tracks letters of a base have at most, by the bounds that the document names.
func most(base int) int {
	return map[int]int{api.Fib: 5, 2: 5, 3: 3, 4: 2, 5: 2, 6: 2}[base]
}

// kinds: how many digits a base has.
func kinds(base int) int {
	if base == api.Fib {
		return 2
	}
	return base
}

// columns: the digits of every letter, in the order of the letters.
func columns(base, tracks int) [][]int {
	all := [][]int{nil}
	for range tracks {
		var more [][]int
		for _, d := range all {
			for x := range kinds(base) {
				more = append(more, append(slices.Clone(d), x))
			}
		}
		all = more
	}
	return all
}

// eachShape calls f with every base and every count of tracks that go together.
func eachShape(f func(base, tracks int)) {
	for _, base := range bases {
		for tracks := range most(base) + 1 {
			f(base, tracks)
		}
	}
}

func repeat(x, n int) []int {
	return slices.Repeat([]int{x}, n)
}

func wantMany(t *testing.T, base, tracks, want int, errno api.Errno) {
	t.Helper()
	got, err := letter.Many(base, tracks)
	if got != want || plain.Told(err) != errno {
		t.Errorf("Many(%d, %d): got %d %v, want %d %v", base, tracks, got, err, want, errno)
	}
}

func wantPack(t *testing.T, base int, d []int, want int, errno api.Errno) {
	t.Helper()
	got, err := letter.Pack(base, d)
	if got != want || plain.Told(err) != errno {
		t.Errorf("Pack(%d, %v): got %d %v, want %d %v", base, d, got, err, want, errno)
	}
}

func wantUnpack(t *testing.T, base, tracks, x int, want []int, errno api.Errno) {
	t.Helper()
	got, err := letter.Unpack(base, tracks, x)
	if !slices.Equal(got, want) || plain.Told(err) != errno {
		t.Errorf("Unpack(%d, %d, %d): got %v %v, want %v %v", base, tracks, x, got, err, want, errno)
	}
}

func wantWord(t *testing.T, base int, nums []int, want []int, errno api.Errno) {
	t.Helper()
	got, err := letter.Word(base, nums)
	if !slices.Equal(got, want) || plain.Told(err) != errno {
		t.Errorf("Word(%d, %v): got %v %v, want %v %v", base, nums, got, err, want, errno)
	}
}

func wantNums(t *testing.T, base, tracks int, w []int, want []int, errno api.Errno) {
	t.Helper()
	got, err := letter.Nums(base, tracks, w)
	if !slices.Equal(got, want) || plain.Told(err) != errno {
		t.Errorf("Nums(%d, %d, %v): got %v %v, want %v %v", base, tracks, w, got, err, want, errno)
	}
}

func wantRight(t *testing.T, base, tracks int, w []int, want bool, errno api.Errno) {
	t.Helper()
	got, err := letter.Right(base, tracks, w)
	if got != want || plain.Told(err) != errno {
		t.Errorf("Right(%d, %d, %v): got %t %v, want %t %v", base, tracks, w, got, err, want, errno)
	}
}

// wantWrong: all that is said of a wrong word by Nums is said by Right.
func wantWrong(t *testing.T, base, tracks int, w []int, errno api.Errno) {
	t.Helper()
	wantNums(t, base, tracks, w, nil, errno)
	wantRight(t, base, tracks, w, false, errno)
}

func TestL1Examples(t *testing.T) {
	wantPack(t, 3, []int{2, 1}, 7, api.OK)
	wantPack(t, api.Fib, []int{1, 1, 0}, 6, api.OK)
	wantPack(t, 6, []int{5, 4}, 34, api.OK)
	wantUnpack(t, 3, 2, 7, []int{2, 1}, api.OK)
	wantUnpack(t, api.Fib, 3, 1, []int{0, 0, 1}, api.OK)
	wantUnpack(t, 5, 1, 4, []int{4}, api.OK)
}

func TestL1Many(t *testing.T) {
	for base, all := range map[int][]int{
		api.Fib: {1, 2, 4, 8, 16, 32},
		2:       {1, 2, 4, 8, 16, 32},
		3:       {1, 3, 9, 27, 0, 0},
		4:       {1, 4, 16, 0, 0, 0},
		5:       {1, 5, 25, 0, 0, 0},
		6:       {1, 6, 36, 0, 0, 0},
	} {
		for tracks, many := range all {
			if many == 0 {
				wantMany(t, base, tracks, 0, api.ErrFull)
			} else {
				wantMany(t, base, tracks, many, api.OK)
			}
		}
	}
}

// TestL1Letters: every letter there is, packed and unpacked.
func TestL1Letters(t *testing.T) {
	eachShape(func(base, tracks int) {
		all := columns(base, tracks)
		wantMany(t, base, tracks, len(all), api.OK)
		for x, d := range all {
			wantPack(t, base, d, x, api.OK)
			wantUnpack(t, base, tracks, x, d, api.OK)
		}
		for _, x := range []int{math.MinInt, -1, len(all), len(all) + 1, api.MaxLetters, math.MaxInt} {
			wantUnpack(t, base, tracks, x, nil, api.ErrRange)
		}
	})
}

func TestL1NoTrack(t *testing.T) {
	for _, base := range bases {
		wantMany(t, base, 0, 1, api.OK)
		wantPack(t, base, nil, 0, api.OK)
		wantPack(t, base, []int{}, 0, api.OK)
		wantUnpack(t, base, 0, 0, nil, api.OK)
		wantUnpack(t, base, 0, 1, nil, api.ErrRange)
		wantUnpack(t, base, 0, -1, nil, api.ErrRange)
	}
}

func TestL1NoDigit(t *testing.T) {
	eachShape(func(base, tracks int) {
		for at := range tracks {
			for _, x := range []int{math.MinInt, -1, kinds(base), math.MaxInt} {
				d := repeat(1, tracks)
				d[at] = x
				wantPack(t, base, d, 0, api.ErrRange)
			}
		}
	})
}

// TestL1FirstError: the base comes first, then the tracks, then how many letters there are, then the digits or the letter.
func TestL1FirstError(t *testing.T) {
	for _, base := range noBases {
		for _, tracks := range append([]int{0, 1, 4, 5}, noTracks...) {
			wantMany(t, base, tracks, 0, api.ErrRange)
			wantUnpack(t, base, tracks, 0, nil, api.ErrRange)
		}
		for n := range 8 {
			wantPack(t, base, make([]int, n), 0, api.ErrRange)
		}
	}
	for _, base := range bases {
		for _, tracks := range noTracks {
			wantMany(t, base, tracks, 0, api.ErrRange)
			wantUnpack(t, base, tracks, 0, nil, api.ErrRange)
		}
		wantPack(t, base, make([]int, api.MaxTracks+1), 0, api.ErrRange)
		wantPack(t, base, make([]int, 1000), 0, api.ErrRange)
		for tracks := most(base) + 1; tracks <= api.MaxTracks; tracks++ {
			wantPack(t, base, repeat(-1, tracks), 0, api.ErrFull)
			wantUnpack(t, base, tracks, -1, nil, api.ErrFull)
			wantUnpack(t, base, tracks, 0, nil, api.ErrFull)
		}
	}
}

func TestL2Examples(t *testing.T) {
	wantWord(t, 2, []int{1, 4}, []int{1, 0, 2}, api.OK)
	wantWord(t, api.Fib, []int{0, 0}, nil, api.OK)
	wantWord(t, api.Fib, []int{11, 3}, []int{2, 0, 3, 0, 0}, api.OK)
	wantWord(t, 3, []int{19}, []int{2, 0, 1}, api.OK)
	wantWord(t, 6, []int{35, 1}, []int{30, 31}, api.OK)
	wantNums(t, 2, 2, []int{0, 1, 2}, []int{1, 2}, api.OK)
	wantNums(t, 2, 2, []int{1, 0, 2}, []int{1, 4}, api.OK)
	wantNums(t, api.Fib, 2, []int{2, 3}, []int{3, 1}, api.OK)
	wantNums(t, api.Fib, 1, []int{1, 1, 1}, []int{6}, api.OK)
	wantRight(t, api.Fib, 2, []int{1, 2, 1}, true, api.OK)
	wantRight(t, api.Fib, 2, []int{1, 3}, false, api.OK)
	wantRight(t, api.Fib, 2, []int{3, 2}, false, api.OK)
	wantRight(t, api.Fib, 3, []int{4, 2, 1, 4}, true, api.OK)
	wantRight(t, 2, 2, []int{3, 3}, true, api.OK)
}

// TestL2NoTrack: without a track there are words of the letter 0, and no numbers.
func TestL2NoTrack(t *testing.T) {
	for _, base := range bases {
		wantWord(t, base, nil, nil, api.OK)
		for _, n := range []int{0, 1, api.MaxWord} {
			wantNums(t, base, 0, make([]int, n), nil, api.OK)
			wantRight(t, base, 0, make([]int, n), true, api.OK)
		}
		wantWrong(t, base, 0, make([]int, api.MaxWord+1), api.ErrFull)
		wantWrong(t, base, 0, []int{0, 1}, api.ErrRange)
	}
}

// TestL2Nothing: of 0s alone there is no letter, and a word of letters 0 counts nothing.
func TestL2Nothing(t *testing.T) {
	eachShape(func(base, tracks int) {
		none := make([]int, tracks)
		wantWord(t, base, none, nil, api.OK)
		for _, n := range []int{0, 1, 7, api.MaxWord} {
			wantNums(t, base, tracks, make([]int, n), none, api.OK)
			wantRight(t, base, tracks, make([]int, n), true, api.OK)
		}
	})
}

// someNumbers: numbers of all sizes, the greatest among them.
func someNumbers(source *rand.Rand, n int) []int {
	nums := make([]int, n)
	for i := range nums {
		switch source.Intn(4) {
		case 0:
			nums[i] = source.Intn(20)
		case 1:
			nums[i] = int(source.Int63n(api.MaxNum + 1))
		case 2:
			nums[i] = api.MaxNum - source.Intn(3)
		case 3:
			nums[i] = int(source.Int63n(api.MaxNum+1)) >> source.Intn(40)
		}
	}
	return nums
}

// wantWordOf: each track of the word has its number's digits, 0s ahead, and the word is as long as the longest of them.
func wantWordOf(t *testing.T, base int, nums []int) {
	t.Helper()
	w, err := letter.Word(base, nums)
	if err != nil {
		t.Fatalf("Word(%d, %v): %v", base, nums, err)
	}
	long := 0
	all := columns(base, len(nums))
	for track, n := range nums {
		d, _ := digit.Of(base, n)
		long = max(long, len(d))
		var row []int
		for _, x := range w {
			row = append(row, all[x][track])
		}
		if len(row) < len(d) || !slices.Equal(row, append(make([]int, len(row)-len(d)), d...)) {
			t.Errorf("Word(%d, %v): %v has on track %d %v, want %v", base, nums, w, track, row, d)
		}
	}
	if len(w) != long {
		t.Errorf("Word(%d, %v): %d letters, want %d", base, nums, len(w), long)
	}
}

// TestL2ToldBack: Nums tells what Word was told, with as many letters 0 ahead as there may be, too.
func TestL2ToldBack(t *testing.T) {
	source := rand.New(rand.NewSource(3))
	eachShape(func(base, tracks int) {
		for range 300 {
			nums := someNumbers(source, tracks)
			wantWordOf(t, base, nums)
			w, _ := letter.Word(base, nums)
			wantNums(t, base, tracks, w, nums, api.OK)
			wantRight(t, base, tracks, w, true, api.OK)
			longer := append(make([]int, api.MaxWord-len(w)), w...)
			wantNums(t, base, tracks, longer, nums, api.OK)
			wantRight(t, base, tracks, longer, true, api.OK)
			wantWrong(t, base, tracks, append([]int{0}, longer...), api.ErrFull)
		}
	})
}

// wantTracks: a word is, track by track, what chapter 1 says of the track's digits.
func wantTracks(t *testing.T, base, tracks int, w []int) {
	t.Helper()
	all := columns(base, tracks)
	nums, errno, right := []int{}, api.OK, true
	for track := range tracks {
		var row []int
		for _, x := range w {
			row = append(row, all[x][track])
		}
		ok, _ := digit.Right(base, row)
		right = right && ok
		n, err := digit.Value(base, row)
		if errno == api.OK {
			errno = plain.Told(err)
		}
		nums = append(nums, n)
	}
	if errno != api.OK {
		nums = nil
	}
	wantNums(t, base, tracks, w, nums, errno)
	wantRight(t, base, tracks, w, right, api.OK)
}

func TestL2Words(t *testing.T) {
	source := rand.New(rand.NewSource(4))
	eachShape(func(base, tracks int) {
		many := len(columns(base, tracks))
		for range 500 {
			w := make([]int, source.Intn(api.MaxWord+1))
			for i := range w {
				if source.Intn(3) == 0 {
					w[i] = source.Intn(many)
				}
			}
			wantTracks(t, base, tracks, w)
		}
		for a := range many {
			for b := range many {
				wantTracks(t, base, tracks, []int{a, b})
				wantTracks(t, base, tracks, []int{0, a, b, a, 0})
			}
		}
	})
}

// TestL2AboveMaxNum: one track that counts too much is enough; the digits are right all the same.
func TestL2AboveMaxNum(t *testing.T) {
	eachShape(func(base, tracks int) {
		for track := range tracks {
			d := make([]int, tracks)
			d[track] = 1
			x, _ := letter.Pack(base, d)
			w := append([]int{x}, make([]int, api.MaxWord-1)...)
			wantNums(t, base, tracks, w, nil, api.ErrFull)
			wantRight(t, base, tracks, w, true, api.OK)
		}
	})
	wantNums(t, 2, 2, append([]int{2}, make([]int, 40)...), []int{api.MaxNum, 0}, api.OK)
	wantNums(t, 2, 2, append(append([]int{1}, make([]int, 39)...), 1), nil, api.ErrFull)
}

func TestL2WrongNumbers(t *testing.T) {
	eachShape(func(base, tracks int) {
		for at := range tracks {
			for _, n := range []int{math.MinInt, -1, api.MaxNum + 1, math.MaxInt} {
				nums := repeat(3, tracks)
				nums[at] = n
				wantWord(t, base, nums, nil, api.ErrRange)
			}
		}
		wantWordOf(t, base, repeat(api.MaxNum, tracks))
	})
}

func TestL2WrongLetters(t *testing.T) {
	eachShape(func(base, tracks int) {
		many := len(columns(base, tracks))
		for _, x := range []int{math.MinInt, -1, many, math.MaxInt} {
			wantWrong(t, base, tracks, []int{x}, api.ErrRange)
			wantWrong(t, base, tracks, []int{x, 0, 0}, api.ErrRange)
			wantWrong(t, base, tracks, []int{0, 0, x}, api.ErrRange)
		}
		wantRight(t, base, tracks, []int{many - 1}, true, api.OK)
	})
}

// TestL2FirstError: of several errors the one that the chapter names first.
func TestL2FirstError(t *testing.T) {
	for _, base := range noBases {
		for _, tracks := range append([]int{0, 1, 4, 5}, noTracks...) {
			for _, w := range [][]int{nil, {0}, {-1}, make([]int, api.MaxWord+1)} {
				wantWrong(t, base, tracks, w, api.ErrRange)
			}
		}
		for n := range 8 {
			wantWord(t, base, make([]int, n), nil, api.ErrRange)
		}
	}
	for _, base := range bases {
		for _, tracks := range noTracks {
			wantWrong(t, base, tracks, nil, api.ErrRange)
			wantWrong(t, base, tracks, make([]int, api.MaxWord+1), api.ErrRange)
		}
		wantWord(t, base, make([]int, api.MaxTracks+1), nil, api.ErrRange)
		for tracks := most(base) + 1; tracks <= api.MaxTracks; tracks++ {
			wantWord(t, base, repeat(-1, tracks), nil, api.ErrFull)
			wantWrong(t, base, tracks, []int{-1}, api.ErrFull)
			wantWrong(t, base, tracks, nil, api.ErrFull)
		}
	}
	eachShape(func(base, tracks int) {
		wantWrong(t, base, tracks, repeat(-1, api.MaxWord+1), api.ErrFull)
		wantWrong(t, base, tracks, make([]int, 100000), api.ErrFull)
		// A letter that is none comes ahead of a track that counts too much.
		wantWrong(t, base, tracks, append(repeat(min(tracks, 1), api.MaxWord-1), -1), api.ErrRange)
	})
}

// TestLettersLeaveLists: what is handed in is not written into, and what lies behind a list's length is not read.
func TestLettersLeaveLists(t *testing.T) {
	memory := []int{0, 1, 0, 99, -1}
	was := slices.Clone(memory)
	for _, base := range bases {
		wantPack(t, base, memory[:2], 1, api.OK)
		wantWord(t, base, memory[:2], []int{1}, api.OK)
		wantNums(t, base, 2, memory[:3], []int{0, kinds(base)}, api.OK)
		wantRight(t, base, 2, memory[:3], true, api.OK)
		if !slices.Equal(memory, was) {
			t.Fatalf("base %d: %v was written into: %v", base, was, memory)
		}
	}
}

// TestLettersFreshMemory: what one call answers is the caller's to write into.
func TestLettersFreshMemory(t *testing.T) {
	overwrite := func(list []int, _ error) {
		for i := range list[:cap(list)] {
			list[:cap(list)][i] = 77
		}
	}
	for range 2 {
		wantUnpack(t, 3, 2, 7, []int{2, 1}, api.OK)
		wantWord(t, 2, []int{1, 4}, []int{1, 0, 2}, api.OK)
		wantNums(t, 2, 2, []int{0, 1, 2}, []int{1, 2}, api.OK)
		overwrite(letter.Unpack(3, 2, 7))
		overwrite(letter.Word(2, []int{1, 4}))
		overwrite(letter.Nums(2, 2, []int{0, 1, 2}))
	}
}
