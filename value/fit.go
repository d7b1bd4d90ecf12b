package value

import (
	"bytes"
	"slices"

	"glossary/api"
	"glossary/pool"
	"glossary/shape"
	"glossary/utf"
	"glossary/wire"
)

// Fit answers whether m is told as the pool's message of a full name says (P17.1).
func Fit(p *pool.Pool, full string, m api.Msg) bool {
	// Only what isn't too deep is sure to come to an end.
	if isTooDeep(m) {
		return false
	}
	k := known{shape.Ask(p, Proto3)}
	var fits func(full string, m api.Msg) bool
	worthFits := func(f shape.Member, v api.Val) bool {
		if f.Type != api.TMessage {
			return k.scalarFits(f, v)
		}
		of, is := f.Typed()
		return is && v.N == 0 && len(v.B) == 0 && fits(of, v.M)
	}
	fits = func(full string, m api.Msg) bool {
		s := k.Shape(full)
		return s.Is && slotsFit(s, m.Slots) && k.unknownFits(s, m.Unknown) && !slices.ContainsFunc(m.Slots, func(slot api.Slot) bool {
			f, _ := s.Find(slot.Num)
			return !k.entriesFit(f, slot.Vals) || slices.ContainsFunc(slot.Vals, func(v api.Val) bool { return !worthFits(f, v) })
		})
	}
	return fits(full, m)
}

// known is what was asked of a pool.
type known struct {
	shape.Known
}

// scalarFits answers whether a field whose type is no message may have a worth.
func (k known) scalarFits(f shape.Member, v api.Val) bool {
	if !Scalar(f.Type, v) {
		return false
	}
	switch f.Type {
	case api.TString:
		return utf.Valid(v.B) || !k.Proto3(f.Full)
	case api.TEnum:
		return k.Enum(f).Has(v.N)
	}
	return true
}

// entriesFit answers whether a field's worths have unlike keys, if it is a map.
func (k known) entriesFit(f shape.Member, l []api.Val) bool {
	s, is := k.Entries(f)
	return !is || keysUnlike(s, l)
}

// unknownFits answers whether bytes are fields, in the one way in which they are written, that no member takes.
func (k known) unknownFits(s shape.Shape, b []byte) bool {
	l, _, err := wire.Read(b)
	if err != api.OK {
		return false
	}
	again, _ := wire.Write(l)
	return bytes.Equal(again, b) && !slices.ContainsFunc(l, func(r api.Raw) bool { return k.takes(s, r) })
}

// takes answers whether a member of the message takes a field on the wire.
func (k known) takes(s shape.Shape, r api.Raw) bool {
	f, is := s.Find(r.Num)
	if !is || !takes(f, r.Kind) {
		return false
	}
	if f.Type != api.TEnum || r.Kind != api.WireVarint {
		return true
	}
	// A number of more than 32 bits is cut to these where it is taken, and never left as it is.
	return !Scalar(api.TEnum, api.Val{N: r.N}) || k.Enum(f).Has(r.N)
}
