package value

import (
	"bytes"
	"slices"

	"glossary/api"
	"glossary/pool"
	"glossary/utf"
	"glossary/wire"
)

// Fit answers whether m is told as the pool's message of a full name says (P17.1).
func Fit(p *pool.Pool, full string, m api.Msg) bool {
	// Only what isn't too deep is sure to come to an end.
	if isTooDeep(m) {
		return false
	}
	k := known{pool: p, shapes: map[string]shape{}, enums: map[string]enum{}, files: map[string]file{}}
	var fits func(full string, m api.Msg) bool
	worthFits := func(f member, v api.Val) bool {
		if f.Type != api.TMessage {
			return k.scalarFits(f, v)
		}
		of, is := f.typed()
		return is && v.N == 0 && len(v.B) == 0 && fits(of, v.M)
	}
	fits = func(full string, m api.Msg) bool {
		s := k.shape(full)
		return s.is && s.slotsFit(m.Slots) && k.unknownFits(s, m.Unknown) && !slices.ContainsFunc(m.Slots, func(slot api.Slot) bool {
			f, _ := s.find(slot.Num)
			return !k.entriesFit(f, slot.Vals) || slices.ContainsFunc(slot.Vals, func(v api.Val) bool { return !worthFits(f, v) })
		})
	}
	return fits(full, m)
}

// known is what was asked of a pool. It is kept, since the pool hands out copies.
type known struct {
	pool   *pool.Pool
	shapes map[string]shape
	enums  map[string]enum
	files  map[string]file // by the full names of what is in them
}

// file is one, as far as what a text may be hangs on it.
type file struct {
	proto3 bool
}

// enum is the numbers that worths of it may have.
type enum struct {
	open    bool // to all
	numbers map[int64]struct{}
}

func (e enum) has(n uint64) bool {
	_, is := e.numbers[int64(n)]
	return is || e.open
}

func (k known) shape(full string) shape {
	s, is := k.shapes[full]
	if !is {
		s = shapeOf(k.pool, full)
		k.shapes[full] = s
	}
	return s
}

func (k known) proto3(full string) bool {
	f, is := k.files[full]
	if !is {
		f = file{proto3: Proto3(k.pool, full)}
		k.files[full] = f
	}
	return f.proto3
}

// enum answers a field's enum; one that isn't there has no numbers.
func (k known) enum(f member) enum {
	full, is := f.typed()
	if !is {
		return enum{}
	}
	e, is := k.enums[full]
	if is {
		return e
	}
	e = enum{open: k.proto3(full), numbers: map[int64]struct{}{}}
	found, _ := k.pool.Enum(full)
	for _, v := range found.Values {
		e.numbers[v.Number] = struct{}{}
	}
	k.enums[full] = e
	return e
}

// scalarFits answers whether a field whose type is no message may have a worth.
func (k known) scalarFits(f member, v api.Val) bool {
	if !Scalar(f.Type, v) {
		return false
	}
	switch f.Type {
	case api.TString:
		return utf.Valid(v.B) || !k.proto3(f.full)
	case api.TEnum:
		return k.enum(f).has(v.N)
	}
	return true
}

// entriesFit answers whether a field's worths have unlike keys, if it is a map.
func (k known) entriesFit(f member, l []api.Val) bool {
	of, is := f.typed()
	if !is || f.Type != api.TMessage {
		return true
	}
	s := k.shape(of)
	return !s.entry || s.keysUnlike(l)
}

// unknownFits answers whether bytes are fields, in the one way in which they are written, that no member takes.
func (k known) unknownFits(s shape, b []byte) bool {
	l, _, err := wire.Read(b)
	if err != api.OK {
		return false
	}
	again, _ := wire.Write(l)
	return bytes.Equal(again, b) && !slices.ContainsFunc(l, func(r api.Raw) bool { return k.takes(s, r) })
}

// takes answers whether a member of the message takes a field on the wire.
func (k known) takes(s shape, r api.Raw) bool {
	f, is := s.find(r.Num)
	if !is || !f.takes(r.Kind) {
		return false
	}
	if f.Type != api.TEnum || r.Kind != api.WireVarint {
		return true
	}
	// A number of more than 32 bits is cut to these where it is taken, and never left as it is.
	return !Scalar(api.TEnum, api.Val{N: r.N}) || k.enum(f).has(r.N)
}
