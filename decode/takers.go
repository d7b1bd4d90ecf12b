package decode

import (
	"glossary/api"
	"glossary/shape"
	"glossary/utf"
	"glossary/varint"
)

const (
	size32       = 4 // bytes of a number on WireI32
	size64       = 8 // and on WireI64
	firstTooDeep = api.MaxDeep + 1
)

// takerOf answers what takes the fields of a member.
func (r reader) takerOf(f shape.Member) taker {
	switch {
	case isNumeric(f.Type):
		return r.numbers(f)
	case f.Type == api.TString:
		return texts(f, r.Proto3(f.Full))
	case f.Type == api.TBytes:
		return texts(f, false)
	case f.Type == api.TMessage && f.Label == api.LabelRepeated:
		return r.messages(f)
	case f.Type == api.TMessage:
		return r.message(f)
	}
	return nothing
}

func nothing(*message, api.Raw) bool {
	return false
}

// numbers takes those of a numeric type, one by one, or, if they are repeated, in one.
func (r reader) numbers(f shape.Member) taker {
	put := r.number(f)
	return func(to *message, w api.Raw) bool {
		if v, is := Scalar(f.Type, w); is {
			put(to, v)
			return true
		}
		if w.Kind != api.WireLen || f.Label != api.LabelRepeated {
			return false
		}
		for _, v := range inOne(f.Type, w.B) {
			put(to, v)
		}
		return true
	}
}

// number puts one into a message; what its enum hasn't is left as a field of its own.
func (r reader) number(f shape.Member) func(to *message, v api.Val) {
	put := func(to *message, v api.Val) { to.put(f, v) }
	if f.Type != api.TEnum {
		return put
	}
	e := r.Enum(f)
	return func(to *message, v api.Val) {
		if e.Has(v.N) {
			put(to, v)
		} else {
			to.leave(api.Raw{Num: int(f.Number), Kind: api.WireVarint, N: v.N})
		}
	}
}

// inOne answers the numbers of a type that stand one behind the other.
func inOne(t int, b []byte) []api.Val {
	kind := kindOf(t)
	var l []api.Val
	for len(b) > 0 {
		n, size := first(kind, b)
		v, _ := Scalar(t, api.Raw{Kind: kind, N: n})
		l = append(l, v)
		b = b[size:]
	}
	return l
}

// first answers the number at b's beginning, as it stands on a kind of field, and how many bytes it takes.
func first(kind int, b []byte) (uint64, int) {
	if kind == api.WireVarint {
		n, size, err := varint.Take(b)
		if err != api.OK {
			panic(fault{api.ErrWorth})
		}
		return n, size
	}
	size := size64
	if kind == api.WireI32 {
		size = size32
	}
	if len(b) < size {
		panic(fault{api.ErrWorth})
	}
	return varint.Unfixed(b[:size]), size
}

// texts takes texts, or bytes; only takes texts that are characters, if it is asked to.
func texts(f shape.Member, characters bool) taker {
	return func(to *message, w api.Raw) bool {
		if w.Kind != api.WireLen {
			return false
		}
		if characters && !utf.Valid(w.B) {
			panic(fault{api.ErrText})
		}
		// wire has read the bytes into memory that nobody else has.
		to.put(f, api.Val{B: w.B})
		return true
	}
}

// message takes one that comes to the one that is there.
func (r reader) message(f shape.Member) taker {
	fill := r.filling(f)
	return func(to *message, w api.Raw) bool {
		if w.Kind != api.WireLen {
			return false
		}
		fill(to.within(f), w.B)
		return true
	}
}

// messages takes those of a repeated field.
func (r reader) messages(f shape.Member) taker {
	fill := r.filling(f)
	put := func(to *message, m api.Msg) { to.put(f, api.Val{M: m}) }
	if entry, is := r.Entries(f); is {
		put = func(to *message, m api.Msg) { to.putEntry(f, entry, m) }
	}
	return func(to *message, w api.Raw) bool {
		if w.Kind != api.WireLen {
			return false
		}
		one := newMessage(to.deep + 1)
		fill(one, w.B)
		put(to, one.told())
		return true
	}
}

// filling takes the fields that bytes are into a message that stands in another one.
func (r reader) filling(f shape.Member) func(to *message, b []byte) {
	of, typed := f.Typed()
	return func(to *message, b []byte) {
		// Whatever it comes to, that in which it stands has something in it, and counts.
		if to.deep > firstTooDeep {
			panic(fault{api.ErrLong})
		}
		if !typed {
			panic(fault{api.ErrNone})
		}
		r.fill(to, of, b)
		// As value.Deep counts them: one without anything in it isn't one more.
		if to.deep == firstTooDeep && !to.isNothing() {
			panic(fault{api.ErrLong})
		}
	}
}
