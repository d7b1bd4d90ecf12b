package value

import (
	"cmp"
	"slices"
	"strings"

	"glossary/api"
	"glossary/pool"
)

const (
	dot     = "."
	keyName = "key" // the field by which the entries of a map are unlike
)

// member is a field of a message, or an extension of it.
type member struct {
	api.Field
	full string // whose file is the field's: the message's full name, or the extension's own
}

// typed answers the full name of a field's type, and whether it has one.
func (f member) typed() (string, bool) {
	return strings.CutPrefix(f.TypeName, dot)
}

// takes answers whether what stands on a field of that kind is the member's.
func (f member) takes(kind int) bool {
	return kind == kindOf(f.Type) || kind == api.WireLen && f.Label == api.LabelRepeated
}

// shape is a message as far as what it may have hangs on it.
type shape struct {
	is       bool     // whether there is such a message
	members  []member // by Number; only the first of a Number counts
	required int      // how many of those that count must be there
	entry    bool     // whether it is a map's
	key      int64    // of an entry: its key's Number
	hasKey   bool
}

// shapeOf answers the shape of a message of the pool.
func shapeOf(p *pool.Pool, full string) shape {
	m, is := p.Message(full)
	if !is {
		return shape{}
	}
	s := shape{is: true, entry: pool.Entry(m)}
	for _, f := range m.Fields {
		s.members = append(s.members, member{f, full})
	}
	for _, own := range p.Exts(full) {
		f, _ := p.Ext(own)
		s.members = append(s.members, member{f, own})
	}
	slices.SortStableFunc(s.members, func(a, b member) int { return cmp.Compare(a.Number, b.Number) })
	for i, f := range s.members {
		if i > 0 && f.Number == s.members[i-1].Number {
			continue
		}
		if f.Label == api.LabelRequired {
			s.required++
		}
		// No extension's own full name is the message's.
		if f.Name == keyName && f.full == full {
			s.key, s.hasKey = f.Number, true
		}
	}
	return s
}

// find answers the member of a number that counts, and whether there is one.
func (s shape) find(num int) (member, bool) {
	at, is := slices.BinarySearchFunc(s.members, int64(num), func(f member, number int64) int {
		return cmp.Compare(f.Number, number)
	})
	if !is {
		return member{}, false
	}
	return s.members[at], true
}

// slotsFit answers whether slots are of members, each as often as it may be and must be.
func (s shape) slotsFit(l []api.Slot) bool {
	required := 0
	oneofs := map[int]struct{}{}
	for i, slot := range l {
		f, is := s.find(slot.Num)
		if !is || i > 0 && slot.Num <= l[i-1].Num || !countFits(f, len(slot.Vals)) {
			return false
		}
		if f.Label == api.LabelRequired {
			required++
		}
		if f.Oneof == 0 {
			continue
		}
		if _, met := oneofs[f.Oneof]; met {
			return false
		}
		oneofs[f.Oneof] = struct{}{}
	}
	return required == s.required
}

func countFits(f member, count int) bool {
	return count == 1 || count > 1 && f.Label == api.LabelRepeated
}

// keyWorth is as much of a key as a map can be asked for.
type keyWorth struct {
	n uint64
	b string
}

// keysUnlike answers whether no two of an entry's messages have the same key.
func (s shape) keysUnlike(l []api.Val) bool {
	met := map[keyWorth][]api.Msg{}
	for _, v := range l {
		own, worth := s.keyOf(v.M)
		// An entry that nobody checked may have a message as its key.
		if slices.ContainsFunc(met[worth], func(m api.Msg) bool { return Same(m, own) }) {
			return false
		}
		met[worth] = append(met[worth], own)
	}
	return true
}

// keyOf answers a message that has nothing but an entry's key, and what is told of that ahead; one that isn't there is 0, or nothing.
func (s shape) keyOf(m api.Msg) (api.Msg, keyWorth) {
	l := []api.Val{{}}
	for _, slot := range m.Slots {
		if s.hasKey && int64(slot.Num) == s.key && len(slot.Vals) > 0 {
			l = slot.Vals
		}
	}
	return api.Msg{Slots: []api.Slot{{Vals: l}}}, keyWorth{l[0].N, string(l[0].B)}
}
