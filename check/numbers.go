package check

import (
	"cmp"
	"slices"

	"glossary/api"
)

// numbers are those of ranges, each From with the greatest To of all ranges that begin no later.
type numbers []api.Range

func byFrom(l []api.Range) []api.Range {
	return slices.SortedFunc(slices.Values(l), func(a, b api.Range) int { return cmp.Compare(a.From, b.From) })
}

func numbersOf(l []api.Range) numbers {
	n := byFrom(l)
	for i := range n {
		n[i].To = max(n[i].To, n[max(i-1, 0)].To)
	}
	return n
}

// has answers whether a number is in one of the ranges.
func (n numbers) has(number int64) bool {
	behind, _ := slices.BinarySearchFunc(n, number, func(r api.Range, number int64) int {
		if r.From <= number {
			return -1
		}
		return 1
	})
	return behind > 0 && number <= n[behind-1].To
}

// rangesFit answers whether ranges are of numbers that fields may have, none of them in two.
func rangesFit(l []api.Range) bool {
	last := int64(0)
	for _, r := range byFrom(l) {
		if r.From <= last || r.To < r.From || r.To > api.MaxField {
			return false
		}
		last = r.To
	}
	return true
}
