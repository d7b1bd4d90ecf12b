package shape

import (
	"glossary/api"
	"glossary/pool"
)

// Known is what was asked of a pool. It is kept, since the pool hands out copies.
type Known struct {
	pool   *pool.Pool
	asked  func(full string) bool
	shapes map[string]Shape
	enums  map[string]Enum
	files  map[string]file // by the full names of what is in them
}

// file is one, as far as what its messages may have hangs on it.
type file struct {
	proto3 bool
}

// Ask answers a Known of which nothing is asked yet; proto3 tells whether a symbol's file is a proto3 one.
func Ask(p *pool.Pool, proto3 func(p *pool.Pool, full string) bool) Known {
	asked := func(full string) bool { return proto3(p, full) }
	return Known{pool: p, asked: asked, shapes: map[string]Shape{}, enums: map[string]Enum{}, files: map[string]file{}}
}

// Shape answers the shape of a message.
func (k Known) Shape(full string) Shape {
	s, is := k.shapes[full]
	if !is {
		s = Of(k.pool, full)
		k.shapes[full] = s
	}
	return s
}

// Proto3 answers whether a symbol's file is a proto3 one.
func (k Known) Proto3(full string) bool {
	f, is := k.files[full]
	if !is {
		f = file{proto3: k.asked(full)}
		k.files[full] = f
	}
	return f.proto3
}

// Enum is the numbers that worths of it may have.
type Enum struct {
	open    bool // to all
	numbers map[int64]struct{}
}

// Has answers whether a worth may have a number.
func (e Enum) Has(n uint64) bool {
	_, is := e.numbers[int64(n)]
	return is || e.open
}

// Enum answers a field's enum; one that isn't there has no numbers.
func (k Known) Enum(f Member) Enum {
	full, is := f.Typed()
	if !is {
		return Enum{}
	}
	e, is := k.enums[full]
	if is {
		return e
	}
	e = Enum{open: k.Proto3(full), numbers: map[int64]struct{}{}}
	found, _ := k.pool.Enum(full)
	for _, v := range found.Values {
		e.numbers[v.Number] = struct{}{}
	}
	k.enums[full] = e
	return e
}

// Entries answers the shape of a field's type, and whether that is a map's entry.
func (k Known) Entries(f Member) (Shape, bool) {
	full, is := f.Typed()
	if !is || f.Type != api.TMessage {
		return Shape{}, false
	}
	s := k.Shape(full)
	return s, s.Entry
}
