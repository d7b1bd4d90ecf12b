package encode

import (
	"glossary/api"
	"glossary/pool"
	"glossary/shape"
	"glossary/value"
)

// layer answers the bytes of a message of a full name.
type layer func(full string, m api.Msg) []byte

// form is how a field is written.
type form struct {
	kind    int    // its type
	message string // of TMessage: its full name
	packed  bool
}

// fields answers what a slot is on the wire.
func (f form) fields(s api.Slot, lay layer) []api.Raw {
	if f.packed {
		return []api.Raw{{Num: s.Num, Kind: api.WireLen, B: inOne(f.kind, s.Vals)}}
	}
	var l []api.Raw
	for _, v := range s.Vals {
		r := onWire(f.kind, v)
		if f.kind == api.TMessage {
			r.B = lay(f.message, v.M)
		}
		r.Num = s.Num
		l = append(l, r)
	}
	return l
}

// inOne answers worths one behind the other.
func inOne(t int, l []api.Val) []byte {
	var b []byte
	for _, v := range l {
		worth, _ := Scalar(t, v)
		b = append(b, worth...)
	}
	return b
}

// known is what was asked of a pool. It is kept, since the pool hands out copies.
type known struct {
	shape.Known
	pool  *pool.Pool
	forms map[place]form
}

// place is a message's full name, and a field's number in it.
type place struct {
	full string
	num  int
}

// form answers how a message's field is written.
func (k known) form(full string, num int) form {
	at := place{full, num}
	f, is := k.forms[at]
	if !is {
		member, _ := k.Shape(full).Find(num)
		f = formOf(k.pool, member)
		k.forms[at] = f
	}
	return f
}

func formOf(p *pool.Pool, f shape.Member) form {
	message, _ := f.Typed()
	return form{kind: f.Type, message: message, packed: value.Packed(p, f.Full, f.Field)}
}
