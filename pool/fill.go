package pool

import (
	"cmp"
	"slices"

	"glossary/api"
	"glossary/copies"
	"glossary/names"
)

// twice is what panics where a full name may not be.
type twice struct {
	full string
}

// fill lays the files in the pool, or answers the first full name that may not be.
func (p *Pool) fill(l []api.File) (full string, err api.Errno) {
	defer func() {
		if t, is := recover().(twice); is {
			full, err = t.full, api.ErrSymbol
		}
	}()
	for _, f := range l {
		p.lay(f)
	}
	for _, exts := range p.exts {
		slices.SortFunc(exts, p.byNumber)
	}
	return "", api.OK
}

// byNumber tells which of two extensions stands ahead.
func (p *Pool) byNumber(a, b string) int {
	return cmp.Or(cmp.Compare(p.symbols[a].ext.Number, p.symbols[b].ext.Number), cmp.Compare(a, b))
}

// lay puts a copy of the file, and its symbols in their order, in the pool.
func (p *Pool) lay(f api.File) {
	// Messages are copied one by one, behind their names, so that no more is copied where one is there twice.
	own := copies.Way{Levels: 0}.File(f)
	alone := copies.Way{Levels: 1}
	h := home{pool: p, name: own.Name}
	h.packages(own.Package)
	var messages func(scope string, l []api.Message) []api.Message
	messages = func(scope string, l []api.Message) []api.Message {
		kept := make([]api.Message, len(l))
		for i, m := range l {
			full := h.put(scope, m.Name, symbol{kind: api.SymMessage, message: &kept[i]})
			kept[i] = alone.Message(m)
			for _, field := range m.Fields {
				h.put(full, field.Name, symbol{kind: api.SymField})
			}
			for _, oneof := range m.Oneofs {
				h.put(full, oneof.Name, symbol{kind: api.SymOneof})
			}
			kept[i].Nested = messages(full, m.Nested)
			h.enums(full, kept[i].Enums)
			h.extends(full, kept[i].Extends)
		}
		return kept
	}
	own.Messages = messages(own.Package, f.Messages)
	h.enums(own.Package, own.Enums)
	h.services(own.Package, own.Services)
	h.extends(own.Package, own.Extends)
	p.files = append(p.files, own)
}

// home is a file whose symbols come into a pool.
type home struct {
	pool *Pool
	name string
}

// put keeps a symbol by its full name, which it answers.
func (h home) put(scope, name string, s symbol) string {
	full := names.Join(scope, name)
	if _, is := h.pool.symbols[full]; is {
		panic(twice{full})
	}
	s.home = h.name
	h.pool.symbols[full] = s
	return full
}

// packages keeps a package and all that it stands in; an empty one is none.
func (h home) packages(full string) {
	for full != "" {
		s, is := h.pool.symbols[full]
		if is && s.kind != api.SymPackage {
			panic(twice{full})
		}
		if is {
			return // and so is all that it stands in
		}
		h.pool.symbols[full] = symbol{kind: api.SymPackage, home: h.name}
		scope, _ := names.Parent(full)
		full = full[:len(scope)] // in the package's own memory: copies would take room by the square of its length
	}
}

func (h home) enums(scope string, l []api.Enum) {
	for i, e := range l {
		h.put(scope, e.Name, symbol{kind: api.SymEnum, enum: &l[i]})
		for _, v := range e.Values {
			h.put(scope, v.Name, symbol{kind: api.SymValue})
		}
	}
}

func (h home) services(scope string, l []api.Service) {
	for _, s := range l {
		full := h.put(scope, s.Name, symbol{kind: api.SymService})
		for _, m := range s.Methods {
			h.put(full, m.Name, symbol{kind: api.SymMethod})
		}
	}
}

func (h home) extends(scope string, l []api.Field) {
	for i, f := range l {
		full := h.put(scope, f.Name, symbol{kind: api.SymExt, ext: &l[i]})
		h.pool.exts[f.Extendee] = append(h.pool.exts[f.Extendee], full)
	}
}
