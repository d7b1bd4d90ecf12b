// Package shape tells what the messages of a pool may have, as the layers ask it that tell, write and read them.
package shape

import (
	"cmp"
	"slices"
	"strings"

	"glossary/api"
	"glossary/pool"
)

const (
	dot     = "."
	keyName = "key" // the field by which the entries of a map are unlike
)

// Member is a field of a message, or an extension of it.
type Member struct {
	api.Field
	Full string // whose file is the field's: the message's full name, or the extension's own
}

// Typed answers the full name of a field's type, and whether it has one.
func (f Member) Typed() (string, bool) {
	return strings.CutPrefix(f.TypeName, dot)
}

// Shape is a message as far as what it may have hangs on it.
type Shape struct {
	Is       bool     // whether there is such a message
	Members  []Member // by Number; only the first of a Number counts
	Required int      // how many of those that count must be there
	Entry    bool     // whether it is a map's
	key      int64    // of an entry: its key's Number
	hasKey   bool
}

// Of answers the shape of a message of the pool.
func Of(p *pool.Pool, full string) Shape {
	m, is := p.Message(full)
	if !is {
		return Shape{}
	}
	s := Shape{Is: true, Entry: pool.Entry(m)}
	for _, f := range m.Fields {
		s.Members = append(s.Members, Member{f, full})
	}
	for _, own := range p.Exts(full) {
		f, _ := p.Ext(own)
		s.Members = append(s.Members, Member{f, own})
	}
	slices.SortStableFunc(s.Members, func(a, b Member) int { return cmp.Compare(a.Number, b.Number) })
	for i, f := range s.Members {
		if i > 0 && f.Number == s.Members[i-1].Number {
			continue
		}
		if f.Label == api.LabelRequired {
			s.Required++
		}
		// No extension's own full name is the message's.
		if f.Name == keyName && f.Full == full {
			s.key, s.hasKey = f.Number, true
		}
	}
	return s
}

// Find answers the member of a number that counts, and whether there is one.
func (s Shape) Find(num int) (Member, bool) {
	at, is := slices.BinarySearchFunc(s.Members, int64(num), func(f Member, number int64) int {
		return cmp.Compare(f.Number, number)
	})
	if !is {
		return Member{}, false
	}
	return s.Members[at], true
}
