package shape

import (
	"strconv"

	"glossary/api"
)

const end = ' ' // of a number, behind which something stands

// Keys are those that a map's entries have, each with the place of its entry.
type Keys struct {
	of     Shape
	places map[string]int
}

// Keys answers none yet, of entries of this shape.
func (s Shape) Keys() Keys {
	return Keys{of: s, places: map[string]int{}}
}

// Put keeps at which place an entry is, which isn't without end; it answers the place of the one ahead with the same key, and whether there was one.
func (k Keys) Put(m api.Msg, place int) (int, bool) {
	key := string(laid(nil, k.of.keyOf(m)))
	old, is := k.places[key]
	k.places[key] = place
	return old, is
}

// keyOf answers what an entry's key has; one that isn't there is 0, or nothing.
func (s Shape) keyOf(m api.Msg) []api.Val {
	l := []api.Val{{}}
	for _, slot := range m.Slots {
		if s.hasKey && int64(slot.Num) == s.key {
			l = slot.Vals
		}
	}
	return l
}

// laid adds worths to b in such a way that no two lists of them come to the same. (The key of an entry that nobody checked may be repeated, or a message.)
func laid(b []byte, l []api.Val) []byte {
	b = count(b, len(l))
	for _, v := range l {
		b = append(strconv.AppendUint(b, v.N, 10), end)
		b = text(b, v.B)
		b = count(b, len(v.M.Slots))
		for _, s := range v.M.Slots {
			b = laid(count(b, s.Num), s.Vals)
		}
		b = text(b, v.M.Unknown)
	}
	return b
}

func count(b []byte, n int) []byte {
	return append(strconv.AppendInt(b, int64(n), 10), end)
}

func text(b, s []byte) []byte {
	return append(count(b, len(s)), s...)
}
