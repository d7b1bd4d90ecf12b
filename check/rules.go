package check

import "glossary/names"

// broken is what panics where a part isn't as a rule asks.
type broken struct {
	name string
	rule int
}

// part is what rules are of, by the name that is told.
type part string

// of answers the part of a name in a scope.
func of(scope, name string) part {
	return part(names.Join(scope, name))
}

// keeps panics where a rule is broken.
func (p part) keeps(rule int, is bool) {
	if !is {
		panic(broken{string(p), rule})
	}
}

// taken are names and numbers that may not come again.
type taken[K comparable] map[K]struct{}

// take takes what nobody has taken yet, and answers whether it was so.
func (t taken[K]) take(k K) bool {
	is := t.has(k)
	t[k] = struct{}{}
	return !is
}

func (t taken[K]) has(k K) bool {
	_, is := t[k]
	return is
}
