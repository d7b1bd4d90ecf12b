package decode

import (
	"slices"

	"glossary/api"
	"glossary/shape"
	"glossary/wire"
)

// fault is what panics where bytes tell no message.
type fault struct {
	err api.Errno
}

// taker takes a field on the wire into a message, and answers whether it is one that it takes.
type taker func(to *message, r api.Raw) bool

// reader is what was asked of a pool, and what takes the fields of its messages.
type reader struct {
	shape.Known
	takers map[place]taker
}

// place is a message's full name, and a field's number in it.
type place struct {
	full string
	num  int
}

// fill takes the fields that bytes are into a message of a full name.
func (r reader) fill(to *message, full string, b []byte) {
	if !r.Shape(full).Is {
		panic(fault{api.ErrNone})
	}
	l, _, err := wire.Read(b)
	if err != api.OK {
		panic(fault{err})
	}
	for _, f := range l {
		if take := r.taker(full, f.Num); !take(to, f) {
			to.leave(f)
		}
	}
}

// taker answers what takes the fields of a number.
func (r reader) taker(full string, num int) taker {
	at := place{full, num}
	take, is := r.takers[at]
	if is {
		return take
	}
	take = nothing
	if f, is := r.Shape(full).Find(num); is {
		take = r.takerOf(f)
	}
	r.takers[at] = take
	return take
}

// lacks answers whether a field that must be there isn't, in a message or in one that stands in it.
func (r reader) lacks(full string, m api.Msg) bool {
	s := r.Shape(full)
	required := 0
	for _, slot := range m.Slots {
		f, _ := s.Find(slot.Num)
		if f.Label == api.LabelRequired {
			required++
		}
		of, _ := f.Typed()
		if f.Type == api.TMessage && slices.ContainsFunc(slot.Vals, func(v api.Val) bool { return r.lacks(of, v.M) }) {
			return true
		}
	}
	return required < s.Required
}
