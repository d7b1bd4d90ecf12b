package decode

import (
	"maps"
	"slices"

	"glossary/api"
	"glossary/shape"
	"glossary/wire"
)

// message is one whose fields are still to come.
type message struct {
	deep    int // how many messages stand within one another down to it
	slots   map[int]*slot
	oneofs  map[int]int // of each the field that is there
	unknown []byte
}

// slot is a field that is there.
type slot struct {
	vals []api.Val
	keys shape.Keys
	gone map[int]struct{} // places of entries in whose place others have come
	in   *message         // what a field that isn't repeated has of a message
}

func newMessage(deep int) *message {
	return &message{deep: deep, slots: map[int]*slot{}, oneofs: map[int]int{}}
}

// isNothing answers whether nothing has come that stays.
func (m *message) isNothing() bool {
	return len(m.slots) == 0 && len(m.unknown) == 0
}

// leave keeps a field that no other takes.
func (m *message) leave(r api.Raw) {
	// What wire has read has a number and a kind that it puts too.
	b, _ := wire.Put(r)
	m.unknown = append(m.unknown, b...)
}

// slot answers that of a field of which a worth comes.
func (m *message) slot(f shape.Member) *slot {
	num := int(f.Number)
	if f.Oneof != 0 {
		if other, is := m.oneofs[f.Oneof]; is && other != num {
			delete(m.slots, other)
		}
		m.oneofs[f.Oneof] = num
	}
	s, is := m.slots[num]
	if !is {
		s = &slot{}
		m.slots[num] = s
	}
	return s
}

// put puts a worth behind those that are there, or in place of the one there.
func (m *message) put(f shape.Member, v api.Val) {
	s := m.slot(f)
	if f.Label != api.LabelRepeated {
		s.vals = nil
	}
	s.vals = append(s.vals, v)
}

// putEntry puts a map's entry behind those that are there; the one with the same key goes.
func (m *message) putEntry(f shape.Member, of shape.Shape, entry api.Msg) {
	s := m.slot(f)
	if s.vals == nil {
		s.keys, s.gone = of.Keys(), map[int]struct{}{}
	}
	if old, is := s.keys.Put(entry, len(s.vals)); is {
		s.gone[old] = struct{}{}
	}
	s.vals = append(s.vals, api.Val{M: entry})
}

// within answers the message that a field has, or one that it has from now on.
func (m *message) within(f shape.Member) *message {
	s := m.slot(f)
	if s.in == nil {
		s.in = newMessage(m.deep + 1)
	}
	return s.in
}

// told answers the message of the fields that have come.
func (m *message) told() api.Msg {
	var l []api.Slot
	for _, num := range slices.Sorted(maps.Keys(m.slots)) {
		l = append(l, api.Slot{Num: num, Vals: m.slots[num].told()})
	}
	return api.Msg{Slots: l, Unknown: m.unknown}
}

func (s *slot) told() []api.Val {
	if s.in != nil {
		return []api.Val{{M: s.in.told()}}
	}
	var l []api.Val
	for i, v := range s.vals {
		if _, gone := s.gone[i]; !gone {
			l = append(l, v)
		}
	}
	return l
}
