// Package qty reckons how much of each of the three resources: see doc/01-qty.md.
package qty

import (
	"interrex/api"
)

// far is the greatest amount that is reckoned with. Two of them make 2^63, which an int64 does not hold any more.
const far = 1 << 62

// within says whether each amount of r is 0 to most.
func within(r api.Res, most int64) bool {
	for _, x := range r {
		if x < 0 || x > most {
			return false
		}
	}
	return true
}

// May says whether an object may ask for r, or have it.
func May(r api.Res) bool {
	return within(r, api.MaxAmount)
}

// Add is a and b, each with each; zero, false: one of both is beyond 0 to 2^62, or a sum is.
func Add(a, b api.Res) (api.Res, bool) {
	if !within(a, far) || !within(b, far) {
		return api.Res{}, false
	}
	var sum api.Res
	for k := range sum {
		// The difference is asked, because the sum could wrap.
		if a[k] > far-b[k] {
			return api.Res{}, false
		}
		sum[k] = a[k] + b[k]
	}
	return sum, true
}

// Sub is a less b; zero, false: one of both is beyond 0 to 2^62, or one would be below 0.
func Sub(a, b api.Res) (api.Res, bool) {
	if !within(a, far) || !within(b, far) || !Fits(b, a) {
		return api.Res{}, false
	}
	var less api.Res
	for k := range less {
		less[k] = a[k] - b[k]
	}
	return less, true
}

// Fits says whether none of need is above that of room. It holds any numbers against each other, also such as Add and Sub do not take.
func Fits(need, room api.Res) bool {
	for k := range need {
		if need[k] > room[k] {
			return false
		}
	}
	return true
}

// Sum is Add of all, from the left; zero, false: one of these Adds tells false.
func Sum(rs ...api.Res) (api.Res, bool) {
	// It begins with zero, so that Add asks the first one, too, where it is the only one.
	var sum api.Res
	for _, r := range rs {
		next, ok := Add(sum, r)
		if !ok {
			return api.Res{}, false
		}
		sum = next
	}
	return sum, true
}

// Share is how many hundredths of whole part is, the whole part of it; 0: whole is not 1 to 1,000,000,000.
func Share(part, whole int64) int {
	if whole < 1 || whole > api.MaxAmount {
		return 0
	}
	// Kept from 0 to whole, part times 100 can't wrap.
	part = max(0, min(part, whole))
	return int(100 * part / whole)
}
