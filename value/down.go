package value

import (
	"bytes"
	"slices"

	"glossary/api"
)

const tooDeep = 100 // what Deep answers beyond MaxDeep

// isNothing answers whether a message has nothing in it.
func isNothing(m api.Msg) bool {
	return len(m.Slots) == 0 && len(m.Unknown) == 0
}

// Deep answers how many messages stand within one another, but goes no farther than to know that they are too many (P17.4).
func Deep(m api.Msg) int {
	deepest := 1
	var down func(m api.Msg, depth int) bool
	down = func(m api.Msg, depth int) bool {
		deepest = max(deepest, depth)
		return depth <= api.MaxDeep && !slices.ContainsFunc(m.Slots, func(s api.Slot) bool {
			return slices.ContainsFunc(s.Vals, func(v api.Val) bool {
				return !isNothing(v.M) && !down(v.M, depth+1)
			})
		})
	}
	if !down(m, 1) {
		return tooDeep
	}
	return deepest
}

func isTooDeep(m api.Msg) bool {
	return Deep(m) > api.MaxDeep
}

// Same answers whether all of the messages is alike, and neither of them too deep (P17.4).
func Same(a, b api.Msg) bool {
	// Only what isn't too deep is sure to come to an end.
	if isTooDeep(a) || isTooDeep(b) {
		return false
	}
	var same func(a, b api.Msg) bool
	sameVal := func(a, b api.Val) bool {
		return a.N == b.N && bytes.Equal(a.B, b.B) && same(a.M, b.M)
	}
	sameSlot := func(a, b api.Slot) bool {
		return a.Num == b.Num && slices.EqualFunc(a.Vals, b.Vals, sameVal)
	}
	same = func(a, b api.Msg) bool {
		return slices.EqualFunc(a.Slots, b.Slots, sameSlot) && bytes.Equal(a.Unknown, b.Unknown)
	}
	return same(a, b)
}
