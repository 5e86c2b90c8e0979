package digit_test

import (
	"math"
	"math/big"
	"math/rand"
	"slices"
	"testing"

	"filbert/api"
	"filbert/digit"
	"filbert/plain"
)

var bases = []int{api.Fib, 2, 3, 4, 5, api.MaxBase}

var noBases = []int{math.MinInt, -2, -1, 0, api.MaxBase + 1, 8, 10, math.MaxInt}

// kinds: how many digits a base has.
func kinds(base int) int {
	if base == api.Fib {
		return 2
	}
	return base
}

// sum: what digits count, by numbers that know no bound.
func sum(base int, d []int) *big.Int {
	all, place, next := big.NewInt(0), big.NewInt(1), big.NewInt(2)
	for i := len(d) - 1; i >= 0; i-- {
		all.Add(all, new(big.Int).Mul(place, big.NewInt(int64(d[i]))))
		if base == api.Fib {
			place, next = next, new(big.Int).Add(place, next)
		} else {
			place = new(big.Int).Mul(place, big.NewInt(int64(base)))
		}
	}
	return all
}

// hasPair: do two 1s stand side by side?
func hasPair(d []int) bool {
	for i := range d {
		if i > 0 && d[i] == 1 && d[i-1] == 1 {
			return true
		}
	}
	return false
}

// repeat: as many of one digit.
func repeat(x, n int) []int {
	return slices.Repeat([]int{x}, n)
}

// ahead: digits with 0s ahead, so that they are n.
func ahead(d []int, n int) []int {
	return append(make([]int, n-len(d)), d...)
}

// eachList calls f with every list of up to n numbers from 0 to k - 1.
func eachList(k, n int, f func([]int)) {
	var grow func([]int)
	grow = func(d []int) {
		f(d)
		if len(d) == n {
			return
		}
		for x := range k {
			grow(append(slices.Clone(d), x))
		}
	}
	grow(nil)
}

func wantDigits(t *testing.T, base, n int, want ...int) {
	t.Helper()
	got, err := digit.Of(base, n)
	if err != nil || !slices.Equal(got, want) {
		t.Errorf("Of(%d, %d): got %v %v, want %v", base, n, got, err, want)
	}
}

func wantValue(t *testing.T, base int, d []int, want int, errno api.Errno) {
	t.Helper()
	got, err := digit.Value(base, d)
	if got != want || plain.Told(err) != errno {
		t.Errorf("Value(%d, %v): got %d %v, want %d %v", base, d, got, err, want, errno)
	}
}

func wantRight(t *testing.T, base int, d []int, want bool, errno api.Errno) {
	t.Helper()
	got, err := digit.Right(base, d)
	if got != want || plain.Told(err) != errno {
		t.Errorf("Right(%d, %v): got %t %v, want %t %v", base, d, got, err, want, errno)
	}
}

func wantLess(t *testing.T, base int, a, b []int, want bool, errno api.Errno) {
	t.Helper()
	got, err := digit.Less(base, a, b)
	if got != want || plain.Told(err) != errno {
		t.Errorf("Less(%d, %v, %v): got %t %v, want %t %v", base, a, b, got, err, want, errno)
	}
}

// wantWrong: all that Right says of wrong digits is said by Value, and by Less of either side.
func wantWrong(t *testing.T, base int, d []int, errno api.Errno) {
	t.Helper()
	wantRight(t, base, d, false, errno)
	wantValue(t, base, d, 0, errno)
	wantLess(t, base, d, nil, false, errno)
	wantLess(t, base, nil, d, false, errno)
}

// wantDigitsOf: the digits of n count n, are as few as can be and, of Fib, without two 1s side by side: there is but one such list.
func wantDigitsOf(t *testing.T, base, n int) {
	t.Helper()
	d, err := digit.Of(base, n)
	if err != nil {
		t.Fatalf("Of(%d, %d): %v", base, n, err)
	}
	for _, x := range d {
		if x < 0 || x >= kinds(base) {
			t.Fatalf("Of(%d, %d): %v has %d", base, n, d, x)
		}
	}
	if len(d) > 0 && d[0] == 0 {
		t.Errorf("Of(%d, %d): %v begins with a 0", base, n, d)
	}
	if base == api.Fib && hasPair(d) {
		t.Errorf("Of(%d, %d): %v has two 1s side by side", base, n, d)
	}
	if s := sum(base, d); s.Cmp(big.NewInt(int64(n))) != 0 {
		t.Errorf("Of(%d, %d): %v counts %v", base, n, d, s)
	}
}

func TestD1Examples(t *testing.T) {
	wantDigits(t, api.Fib, 11, 1, 0, 1, 0, 0)
	wantDigits(t, api.Fib, 1, 1)
	wantDigits(t, api.Fib, 2, 1, 0)
	wantDigits(t, api.Fib, 3, 1, 0, 0)
	wantDigits(t, api.Fib, 4, 1, 0, 1)
	wantDigits(t, 2, 6, 1, 1, 0)
	wantDigits(t, 3, 19, 2, 0, 1)
	wantDigits(t, 4, 27, 1, 2, 3)
	wantDigits(t, 5, 124, 4, 4, 4)
	wantDigits(t, 6, 35, 5, 5)
	wantDigits(t, 6, 36, 1, 0, 0)
	for _, base := range bases {
		wantDigits(t, base, 0)
		wantDigits(t, base, 1, 1)
	}
	wantDigits(t, 2, api.MaxNum, append([]int{1}, make([]int, 40)...)...)
	wantDigits(t, 4, api.MaxNum, append([]int{1}, make([]int, 20)...)...)
}

func TestD1Bases(t *testing.T) {
	for _, base := range bases {
		if !digit.IsBase(base) || digit.Kinds(base) != kinds(base) {
			t.Errorf("base %d: got %t %d, want true %d", base, digit.IsBase(base), digit.Kinds(base), kinds(base))
		}
	}
	for _, base := range noBases {
		if digit.IsBase(base) {
			t.Errorf("base %d: there is none such", base)
		}
	}
}

func TestD1Numbers(t *testing.T) {
	source := rand.New(rand.NewSource(1))
	for _, base := range bases {
		for n := range 3000 {
			wantDigitsOf(t, base, n)
			wantDigitsOf(t, base, api.MaxNum-n)
		}
		for range 3000 {
			wantDigitsOf(t, base, int(source.Int63n(api.MaxNum+1)))
		}
	}
}

// TestD1Places: at each place's number, and beside it, the count of digits changes as it should.
func TestD1Places(t *testing.T) {
	for _, base := range bases {
		for long := 1; ; long++ {
			place := sum(base, append([]int{1}, make([]int, long-1)...))
			if place.Cmp(big.NewInt(api.MaxNum)) > 0 {
				break
			}
			n := int(place.Int64())
			wantDigitsOf(t, base, n-1)
			wantDigitsOf(t, base, n)
			if d, _ := digit.Of(base, n); len(d) != long {
				t.Errorf("Of(%d, %d): %d digits, want %d", base, n, len(d), long)
			}
			if d, _ := digit.Of(base, n-1); len(d) != long-1 {
				t.Errorf("Of(%d, %d): %d digits, want %d", base, n-1, len(d), long-1)
			}
		}
	}
}

func TestD1Wrong(t *testing.T) {
	wrong := func(base, n int) {
		d, err := digit.Of(base, n)
		if len(d) != 0 || plain.Told(err) != api.ErrRange {
			t.Errorf("Of(%d, %d): got %v %v, want ErrRange", base, n, d, err)
		}
	}
	for _, base := range noBases {
		for _, n := range []int{-1, 0, 1, api.MaxNum, api.MaxNum + 1} {
			wrong(base, n)
		}
	}
	for _, base := range bases {
		for _, n := range []int{math.MinInt, -api.MaxNum, -1, api.MaxNum + 1, math.MaxInt} {
			wrong(base, n)
		}
	}
}

// TestD1FreshMemory: what one call answers is the caller's to write into.
func TestD1FreshMemory(t *testing.T) {
	first, _ := digit.Of(api.Fib, 11)
	second, _ := digit.Of(api.Fib, 11)
	for i := range first {
		first[i] = 9
	}
	if !slices.Equal(second, []int{1, 0, 1, 0, 0}) {
		t.Errorf("two answers share memory: %v", second)
	}
	wantDigits(t, api.Fib, 11, 1, 0, 1, 0, 0)
}

func TestD2Examples(t *testing.T) {
	wantValue(t, api.Fib, []int{1, 1}, 3, api.OK)
	wantValue(t, api.Fib, []int{1, 0, 1, 0, 0}, 11, api.OK)
	wantValue(t, api.Fib, []int{1, 1, 1, 1, 1}, 19, api.OK)
	wantValue(t, 3, []int{2, 0, 1}, 19, api.OK)
	wantValue(t, 3, []int{0, 0, 2, 0, 1}, 19, api.OK)
	wantRight(t, api.Fib, []int{1, 1}, false, api.OK)
	wantRight(t, api.Fib, []int{0, 1, 0, 1, 1}, false, api.OK)
	wantRight(t, api.Fib, []int{1, 1, 0, 1}, false, api.OK)
	wantRight(t, api.Fib, []int{0, 0, 1, 0, 1}, true, api.OK)
	wantRight(t, 2, []int{1, 1}, true, api.OK)
	wantLess(t, 2, []int{1, 0}, []int{0, 1, 1}, true, api.OK)
	wantLess(t, 2, []int{0, 1, 1}, []int{1, 0}, false, api.OK)
	wantLess(t, 2, []int{0, 0, 1}, []int{1}, false, api.OK)
	wantLess(t, api.Fib, []int{1, 1}, []int{1, 0, 0}, false, api.OK)
	wantLess(t, api.Fib, []int{1, 0, 0}, []int{1, 1}, false, api.OK)
	wantLess(t, api.Fib, []int{1, 0, 0}, []int{1, 1, 0}, true, api.OK)
}

func TestD2Nothing(t *testing.T) {
	for _, base := range bases {
		for _, d := range [][]int{nil, {}, {0}, make([]int, api.MaxWord)} {
			wantRight(t, base, d, true, api.OK)
			wantValue(t, base, d, 0, api.OK)
			wantLess(t, base, d, nil, false, api.OK)
			wantLess(t, base, d, []int{1}, true, api.OK)
			wantLess(t, base, []int{1}, d, false, api.OK)
		}
	}
}

// TestD2ShortLists: all lists of few numbers, those that are no digits among them.
func TestD2ShortLists(t *testing.T) {
	for _, base := range bases {
		eachList(kinds(base)+1, 4, func(d []int) {
			if slices.Contains(d, kinds(base)) {
				wantWrong(t, base, d, api.ErrRange)
				return
			}
			wantRight(t, base, d, base != api.Fib || !hasPair(d), api.OK)
			wantValue(t, base, d, int(sum(base, d).Int64()), api.OK)
		})
	}
	eachList(2, 10, func(d []int) {
		wantRight(t, api.Fib, d, !hasPair(d), api.OK)
		wantValue(t, api.Fib, d, int(sum(api.Fib, d).Int64()), api.OK)
	})
}

// TestD2LongLists: lists of any length, most of them beyond MaxNum or close to it.
func TestD2LongLists(t *testing.T) {
	source := rand.New(rand.NewSource(2))
	for _, base := range bases {
		for range 3000 {
			d := make([]int, source.Intn(api.MaxWord+1))
			for i := range d {
				d[i] = source.Intn(kinds(base))
			}
			wantRight(t, base, d, base != api.Fib || !hasPair(d), api.OK)
			if s := sum(base, d); s.Cmp(big.NewInt(api.MaxNum)) > 0 {
				wantValue(t, base, d, 0, api.ErrFull)
			} else {
				wantValue(t, base, d, int(s.Int64()), api.OK)
			}
		}
	}
}

// TestD2ToldBack: Value tells what Of was told, with as many 0s ahead as there may be, too.
func TestD2ToldBack(t *testing.T) {
	for _, base := range bases {
		for _, n := range []int{0, 1, 2, 3, 7, 1000, api.MaxNum / 2, api.MaxNum - 1, api.MaxNum} {
			d, err := digit.Of(base, n)
			if err != nil {
				t.Fatal(err)
			}
			wantRight(t, base, d, true, api.OK)
			wantValue(t, base, d, n, api.OK)
			wantRight(t, base, ahead(d, api.MaxWord), true, api.OK)
			wantValue(t, base, ahead(d, api.MaxWord), n, api.OK)
			wantWrong(t, base, ahead(d, api.MaxWord+1), api.ErrFull)
		}
	}
}

// oneMore: the digits of MaxNum + 1, of a base that is not Fib.
func oneMore(base int) []int {
	d, _ := digit.Of(base, api.MaxNum)
	for i := len(d) - 1; i >= 0; i-- {
		if d[i]++; d[i] < base {
			return d
		}
		d[i] = 0
	}
	return append([]int{1}, d...)
}

func TestD2AboveMaxNum(t *testing.T) {
	full := func(base int, d []int) {
		t.Helper()
		wantValue(t, base, d, 0, api.ErrFull)
		wantLess(t, base, d, []int{1}, false, api.ErrFull)
		wantLess(t, base, []int{1}, d, false, api.ErrFull)
	}
	for _, base := range bases {
		full(base, repeat(kinds(base)-1, api.MaxWord))
		full(base, append([]int{1}, make([]int, api.MaxWord-1)...))
		if base != api.Fib {
			full(base, oneMore(base))
			wantRight(t, base, repeat(base-1, api.MaxWord), true, api.OK)
		}
	}
	// 4 to the power of 32 is 0 in 64 bits.
	full(4, append([]int{1}, make([]int, 32)...))
	wantRight(t, 4, append([]int{1}, make([]int, 32)...), true, api.OK)
	wantRight(t, api.Fib, append([]int{1}, make([]int, api.MaxWord-1)...), true, api.OK)
}

// TestD2FibAtMaxNum: the numbers beside MaxNum, in digits with two 1s side by side as well.
func TestD2FibAtMaxNum(t *testing.T) {
	d, _ := digit.Of(api.Fib, api.MaxNum)
	pairs := slices.Clone(d)
	for i := 0; i+2 < len(pairs); i++ {
		if slices.Equal(pairs[i:i+3], []int{1, 0, 0}) {
			copy(pairs[i:], []int{0, 1, 1})
		}
	}
	wantRight(t, api.Fib, pairs, false, api.OK)
	wantValue(t, api.Fib, pairs, api.MaxNum, api.OK)
	wantLess(t, api.Fib, pairs, d, false, api.OK)
	end := len(d) - 1
	for d[end] == 1 {
		end--
	}
	d[end] = 1
	wantValue(t, api.Fib, d, 0, api.ErrFull)
}

func TestD2Wrong(t *testing.T) {
	for _, base := range noBases {
		for _, d := range [][]int{nil, {0}, {1, 1}, {-1}, {99}, make([]int, api.MaxWord+1)} {
			wantWrong(t, base, d, api.ErrRange)
		}
	}
	for _, base := range bases {
		for _, x := range []int{math.MinInt, -1, kinds(base), math.MaxInt} {
			wantWrong(t, base, []int{x}, api.ErrRange)
			wantWrong(t, base, []int{x, 0, 1}, api.ErrRange)
			wantWrong(t, base, []int{1, 0, x}, api.ErrRange)
		}
		wantRight(t, base, []int{kinds(base) - 1}, true, api.OK)
		wantWrong(t, base, make([]int, api.MaxWord+1), api.ErrFull)
		wantWrong(t, base, make([]int, 100000), api.ErrFull)
	}
}

// TestD2FirstError: of several errors the one that the chapter names first.
func TestD2FirstError(t *testing.T) {
	long, above, none := make([]int, api.MaxWord+1), repeat(1, api.MaxWord), []int{-1}
	for _, base := range bases {
		wantWrong(t, base, repeat(-1, api.MaxWord+1), api.ErrFull)
		wantWrong(t, base, repeat(kinds(base), api.MaxWord+1), api.ErrFull)
		wantWrong(t, base, append(repeat(1, api.MaxWord-1), -1), api.ErrRange)
		wantLess(t, base, long, none, false, api.ErrFull)
		wantLess(t, base, none, long, false, api.ErrRange)
		wantLess(t, base, above, none, false, api.ErrFull)
		wantLess(t, base, none, above, false, api.ErrRange)
	}
	wantLess(t, 0, long, above, false, api.ErrRange)
}

// TestD2LeavesLists: what is handed in is not written into, and what lies behind a list's length is not read.
func TestD2LeavesLists(t *testing.T) {
	memory := []int{0, 1, 1, 7, -1}
	was := slices.Clone(memory)
	for _, base := range bases {
		wantRight(t, base, memory[:3], base != api.Fib, api.OK)
		wantValue(t, base, memory[:3], max(base, 2)+1, api.OK)
		wantLess(t, base, memory[:2], memory[:3], true, api.OK)
		if !slices.Equal(memory, was) {
			t.Fatalf("base %d: %v was written into: %v", base, was, memory)
		}
	}
}
