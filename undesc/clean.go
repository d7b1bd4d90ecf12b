package undesc

import (
	"slices"

	"glossary/api"
)

const (
	maxSize     = 1<<31 - 1 // the document promises nothing of an answer of more bytes
	messageSize = 256       // the bytes of a message without what it has
)

// fits answers whether the messages of so many levels are not more than one answer may have: where a list stands within itself more than once, there are more of them than anybody can copy. It goes no farther than to know.
func fits(l []api.Message, levels int) bool {
	size := 0
	var down func(l []api.Message, levels int) bool
	down = func(l []api.Message, levels int) bool {
		if levels == 0 {
			return true
		}
		size += messageSize * len(l)
		return size <= maxSize && !slices.ContainsFunc(l, func(m api.Message) bool {
			return !down(m.Nested, levels-1)
		})
	}
	return down(l, levels)
}
