// Package digit has numbers as digits.
package digit

import (
	"filbert/api"
)

// tooMuch stands for all that is above the greatest number: a place that counts more need not count its due, and sums stay far from wrapping round.
const tooMuch = api.MaxNum + 1

// Of a number.
func Of(base, n int) ([]int, error) {
	if !IsBase(base) || n < 0 || n > api.MaxNum {
		return nil, api.ErrRange
	}
	var d [api.MaxWord]int
	for i, c := range counts(base) {
		// Of Fib the greatest place that fits leaves less than the place behind it counts: so no two 1s come side by side.
		d[i], n = n/c, n%c
	}
	return withoutZeros(d), nil
}

// Right digits are those of some number.
func Right(base int, d []int) (bool, error) {
	if err := check(base, d); err != nil {
		return false, err
	}
	return base != api.Fib || !hasOnesSideBySide(d), nil
}

// Value of digits together.
func Value(base int, d []int) (int, error) {
	if err := check(base, d); err != nil {
		return 0, err
	}
	places := counts(base)
	sum := 0
	for i, c := range places[api.MaxWord-len(d):] {
		sum += d[i] * c
	}
	if sum > api.MaxNum {
		return 0, api.ErrFull
	}
	return sum, nil
}

// Less tells whether a counts less.
func Less(base int, a, b []int) (bool, error) {
	x, err := Value(base, a)
	if err != nil {
		return false, err
	}
	y, err := Value(base, b)
	if err != nil {
		return false, err
	}
	return x < y, nil
}

// IsBase tells whether there is such a base.
func IsBase(base int) bool {
	return base >= api.Fib && base <= api.MaxBase
}

// Kinds tells how many digits a base has: Fib has those of 2. (Of what is no base it tells nothing.)
func Kinds(base int) int {
	return max(base, 2)
}

// check tells what is wrong with digits, whatever they count.
func check(base int, d []int) error {
	if !IsBase(base) {
		return api.ErrRange
	}
	if len(d) > api.MaxWord {
		return api.ErrFull
	}
	for _, x := range d {
		if x < 0 || x >= Kinds(base) {
			return api.ErrRange
		}
	}
	return nil
}

// counts tells what each place counts, the one that counts most first, as the digits stand.
func counts(base int) [api.MaxWord]int {
	var c [api.MaxWord]int
	last, ahead := 1, 1
	for i := api.MaxWord - 1; i >= 0; i-- {
		c[i] = last
		more := last * base
		if base == api.Fib {
			more = last + ahead
		}
		last, ahead = min(more, tooMuch), last
	}
	return c
}

// withoutZeros copies the digits from the first one on that is not 0.
func withoutZeros(d [api.MaxWord]int) []int {
	first := 0
	for first < len(d) && d[first] == 0 {
		first++
	}
	return append([]int(nil), d[first:]...)
}

func hasOnesSideBySide(d []int) bool {
	for i := 1; i < len(d); i++ {
		if d[i-1] == 1 && d[i] == 1 {
			return true
		}
	}
	return false
}
