package check

import (
	"slices"
	"strings"

	"glossary/pool"
)

// meaning is what a full name stands for, as far as rules ask.
type meaning struct {
	kind   int
	home   string
	proto3 bool          // whether its file is
	entry  bool          // of a message: whether it is a map's
	ranges numbers       // of a message
	values taken[string] // of an enum
}

// meaning answers what a full name stands for. It is kept, since the pool hands out copies.
func (c *checking) meaning(full string) meaning {
	m, is := c.meanings[full]
	if is {
		return m
	}
	m = meaning{kind: c.pool.Kind(full), home: c.pool.Home(full), values: taken[string]{}}
	if at, is := c.places[m.home]; is {
		m.proto3 = c.files[at].Syntax == proto3
	}
	if found, is := c.pool.Message(full); is {
		m.entry, m.ranges = pool.Entry(found), numbersOf(found.Ranges)
	}
	if found, is := c.pool.Enum(full); is {
		for _, v := range found.Values {
			m.values.take(v.Name)
		}
	}
	c.meanings[full] = m
	return m
}

// find answers what a name with a dot ahead stands for, and whether it is of the kind and in a file that is seen.
func (c *checking) find(name string, kind int) (meaning, bool) {
	full, is := strings.CutPrefix(name, dot)
	if !is {
		return meaning{}, false
	}
	m := c.meaning(full)
	_, sees := slices.BinarySearch(c.seen, m.home)
	return m, m.kind == kind && sees
}
