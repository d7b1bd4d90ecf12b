package check

import (
	"glossary/api"
	"glossary/graph"
	"glossary/names"
	"glossary/pool"
)

const (
	maxName = 1000 // bytes of a file's Name, and of a full name
	proto3  = "proto3"
	dot     = "."
)

// firstBroken answers the rule that is broken first; one of the number 0, if none is.
func firstBroken(l []api.File) (b broken) {
	defer func() {
		b, _ = recover().(broken)
	}()
	places := placesOf(l)
	p, full, err := pool.New(l)
	part(full).keeps(4, err == api.OK)
	c := checking{files: l, places: places, pool: p, meanings: map[string]meaning{}, extensions: taken[extension]{}}
	units := p.Units()
	for _, f := range l {
		c.seen, c.proto3 = graph.Visible(units, f.Name), f.Syntax == proto3
		c.file(f)
	}
	return broken{}
}

// placesOf holds the rules of the files themselves, and answers where each stands, by its Name.
func placesOf(l []api.File) map[string]int {
	places := map[string]int{}
	for i, f := range l {
		own := part(f.Name)
		_, met := places[f.Name]
		own.keeps(1, f.Name != "" && len(f.Name) <= maxName && !met)
		own.keeps(2, importsFit(f, places))
		own.keeps(3, (f.Package == "" || names.Full(f.Package)) && (f.Syntax == "" || f.Syntax == proto3))
		places[f.Name] = i
	}
	return places
}

// importsFit answers whether a file imports files ahead, each once, and tells rightly which of these are public.
func importsFit(f api.File, ahead map[string]int) bool {
	met := taken[string]{}
	for _, dep := range f.Deps {
		if _, is := ahead[dep]; !is || !met.take(dep) {
			return false
		}
	}
	last := -1
	for _, place := range f.Public {
		if place <= last || place >= len(f.Deps) {
			return false
		}
		last = place
	}
	return true
}

// checking is a file whose parts are gone over, and what is known of all files.
type checking struct {
	files      []api.File
	places     map[string]int
	pool       *pool.Pool
	meanings   map[string]meaning // of full names, as far as they were asked for
	extensions taken[extension]   // so far, of all files
	seen       []string           // what the file sees, rising
	proto3     bool
}

// file holds the rules of all that stands in a file.
func (c *checking) file(f api.File) {
	var messages func(l []api.Message, scope string, around *message)
	messages = func(l []api.Message, scope string, around *message) {
		for _, each := range l {
			m := messageOf(each, scope, around)
			c.message(m)
			m.oneofs()
			c.fields(m)
			messages(each.Nested, m.full, m)
			c.enums(each.Enums, m.full)
			c.extends(each.Extends, m.full)
		}
	}
	messages(f.Messages, f.Package, nil)
	c.enums(f.Enums, f.Package)
	c.services(f.Services, f.Package)
	c.extends(f.Extends, f.Package)
}
