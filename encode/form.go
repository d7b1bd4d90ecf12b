package encode

import (
	"strings"

	"glossary/api"
	"glossary/pool"
	"glossary/value"
)

const dot = "."

// layer answers the bytes of a message of a full name.
type layer func(full string, m api.Msg) []byte

// form is how a field is written.
type form struct {
	kind    int    // its type
	message string // of TMessage: its full name
	packed  bool
}

// fields answers what a slot is on the wire.
func (f form) fields(s api.Slot, lay layer) []api.Raw {
	if f.packed {
		return []api.Raw{{Num: s.Num, Kind: api.WireLen, B: inOne(f.kind, s.Vals)}}
	}
	var l []api.Raw
	for _, v := range s.Vals {
		r := onWire(f.kind, v)
		if f.kind == api.TMessage {
			r.B = lay(f.message, v.M)
		}
		r.Num = s.Num
		l = append(l, r)
	}
	return l
}

// inOne answers worths one behind the other.
func inOne(t int, l []api.Val) []byte {
	var b []byte
	for _, v := range l {
		worth, _ := Scalar(t, v)
		b = append(b, worth...)
	}
	return b
}

// known is what was asked of a pool. It is kept, since the pool hands out copies.
type known struct {
	pool    *pool.Pool
	members map[string]members
	forms   map[place]form
}

// members are a message's fields and extensions by Number; of one Number the first.
type members map[int64]member

// member is one of them.
type member struct {
	api.Field
	full string // whose file is the field's: the message's full name, or the extension's own
}

// place is a message's full name, and a field's number in it.
type place struct {
	full string
	num  int
}

// form answers how a message's field is written.
func (k known) form(full string, num int) form {
	at := place{full, num}
	f, is := k.forms[at]
	if !is {
		f = formOf(k.pool, k.membersOf(full)[int64(num)])
		k.forms[at] = f
	}
	return f
}

func formOf(p *pool.Pool, f member) form {
	return form{kind: f.Type, message: strings.TrimPrefix(f.TypeName, dot), packed: value.Packed(p, f.full, f.Field)}
}

func (k known) membersOf(full string) members {
	l, is := k.members[full]
	if !is {
		l = find(k.pool, full)
		k.members[full] = l
	}
	return l
}

// find answers a message's members. value.Fields has them too, but doesn't tell an extension's full name.
func find(p *pool.Pool, full string) members {
	l := members{}
	add := func(f api.Field, of string) {
		if _, is := l[f.Number]; !is {
			l[f.Number] = member{f, of}
		}
	}
	m, _ := p.Message(full)
	for _, f := range m.Fields {
		add(f, full)
	}
	for _, own := range p.Exts(full) {
		f, _ := p.Ext(own)
		add(f, own)
	}
	return l
}
