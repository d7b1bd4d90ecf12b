package check

import (
	"math"

	"glossary/api"
	"glossary/names"
)

// enums holds the rules of enums and of their values, which have names beside the enum's own.
func (c *checking) enums(l []api.Enum, scope string) {
	for _, e := range l {
		own := of(scope, e.Name)
		own.keeps(18, names.Ident(e.Name) && len(own) <= maxName && c.valuesFit(e.Values))
		met := taken[int64]{}
		for _, v := range e.Values {
			of(scope, v.Name).keeps(19, isValueName(v.Name) && is32Bits(v.Number) && met.take(v.Number))
		}
	}
}

// valuesFit answers whether there is a value that counts where nothing is told.
func (c *checking) valuesFit(l []api.Value) bool {
	return len(l) > 0 && (!c.proto3 || l[0].Number == 0)
}

func isValueName(s string) bool {
	return names.Ident(s) && s != "option" && s != "reserved"
}

func is32Bits(n int64) bool {
	return math.MinInt32 <= n && n <= math.MaxInt32
}

// services holds the rules of services and of their methods.
func (c *checking) services(l []api.Service, scope string) {
	for _, s := range l {
		own := of(scope, s.Name)
		own.keeps(22, names.Ident(s.Name))
		for _, m := range s.Methods {
			_, in := c.find(m.In, api.SymMessage)
			_, out := c.find(m.Out, api.SymMessage)
			of(string(own), m.Name).keeps(23, names.Ident(m.Name) && in && out)
		}
	}
}
