package value

import (
	"glossary/api"
	"glossary/shape"
)

// takes answers whether what stands on a field of that kind is the member's.
func takes(f shape.Member, kind int) bool {
	return kind == kindOf(f.Type) || kind == api.WireLen && f.Label == api.LabelRepeated
}

// slotsFit answers whether slots are of members, each as often as it may be and must be.
func slotsFit(s shape.Shape, l []api.Slot) bool {
	required := 0
	oneofs := map[int]struct{}{}
	for i, slot := range l {
		f, is := s.Find(slot.Num)
		if !is || i > 0 && slot.Num <= l[i-1].Num || !countFits(f, len(slot.Vals)) {
			return false
		}
		if f.Label == api.LabelRequired {
			required++
		}
		if f.Oneof == 0 {
			continue
		}
		if _, met := oneofs[f.Oneof]; met {
			return false
		}
		oneofs[f.Oneof] = struct{}{}
	}
	return required == s.Required
}

func countFits(f shape.Member, count int) bool {
	return count == 1 || count > 1 && f.Label == api.LabelRepeated
}

// keysUnlike answers whether no two of an entry's messages have the same key.
func keysUnlike(s shape.Shape, l []api.Val) bool {
	keys := s.Keys()
	for i, v := range l {
		if _, met := keys.Put(v.M, i); met {
			return false
		}
	}
	return true
}
