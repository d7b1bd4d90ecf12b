package decode_test

import (
	"math"
	"reflect"
	"slices"
	"strings"
	"testing"
	"unsafe"

	"glossary/api"
	"glossary/copies"
	"glossary/decode"
	"glossary/encode"
	"glossary/pool"
	"glossary/value"
)

// P19.1: of one Number the first field counts: fields first, then extensions by their full names.
func TestFirstCounts(t *testing.T) {
	x := func(name string, number int64, kind int) api.Field {
		return extension(name, ".m.M", number, 3, kind, "")
	}
	m := api.Message{Name: "M", Fields: []api.Field{field("a", 1, 3, api.TInt32, ""), field("b", 1, 2, api.TSint32, ""), field("c", 2, 3, api.TBytes, ""), field("d", 2, 3, api.TInt32, ""), field("e", 3, 0, api.TSint32, "")}}
	p := made(t, api.File{Name: "a", Package: "m", Messages: []api.Message{m}, Extends: []api.Field{x("z", 4, api.TString), x("z5", 5, api.TSint32), x("z6", 6, api.TString)}},
		api.File{Name: "b", Package: "a", Syntax: "proto3", Extends: []api.Field{x("a", 3, api.TInt32), x("a1", 1, api.TInt32), x("a4", 4, api.TString)}},
		api.File{Name: "c", Package: "z", Syntax: "proto3", Extends: []api.Field{x("a5", 5, api.TInt32)}},
		api.File{Name: "d", Package: "m.o", Syntax: "proto3", Extends: []api.Field{x("a6", 6, api.TString)}})
	holdAll(t, p, "m.M", []try{
		{uv(1, 1) + uv(1, 1), "1=1,1"}, // b is required, but not the first
		{in(2, "a") + uv(2, 1), `2="a" ?1001`},
		{uv(3, 1) + uv(3, 2), "3=1"},
		{uv(5, 1) + uv(5, 1), "5=-1,-1"}, // m.z5 is ahead of z.a5
	})
	refuse(t, p, "m.M", in(4, "\xff"), api.ErrText) // a.a4, of a proto3 file, is ahead of m.z
	refuse(t, p, "m.M", in(6, "\xff"), api.ErrText) // m.o.a6 is ahead of m.z6
}

// P19.1: ErrRequired, if what must be there isn't, in the message or in one that stands in it.
func TestRequired(t *testing.T) {
	p := made(t, base()...)
	a, e := uv(1, 1), in(5)
	for _, full := range []string{"two.Need", "three.Need"} {
		for _, bytes := range []string{"", a, e, uv(99, 1), a + in(4, "x"), a + uv(5, 1), e + in(1, "\x01"), a + e + in(2), a + e + in(2, a), a + e + in(2, e), a + e + in(3, a, e) + in(3), a + e + in(2, a, e, in(2, a)), a + e + in(2, a, e, in(3, a, e, in(3))),
			in(2, a, e), in(3, a, e), e + in(2, a, e), a + e + in(3) + in(3, a, e), a + e + in(3, a) + in(3, e), a + e + in(2, in(2, a)) + in(2, a, in(2, e))} {
			refuse(t, p, full, bytes, api.ErrRequired)
		}
		holdAll(t, p, full, []try{
			{a + e, "1=1 5=0"},
			{e + uv(1, 0), "1=0 5=0"},
			{a + e + in(2, a, e), "1=1 2={1=1 5=0} 5=0"},
			{a + e + in(3, a, e) + in(3, e, a), "1=1 3={1=1 5=0},{1=1 5=0} 5=0"},
			{in(2, a, e) + a + e, "1=1 2={1=1 5=0} 5=0"},
			// Of a message that comes twice both together.
			{a + e + in(2, a) + in(2, e), "1=1 2={1=1 5=0} 5=0"},
			{in(2, e) + a + e + in(2, a), "1=1 2={1=1 5=0} 5=0"},
			{in(2) + a + e + in(2, a) + in(2) + in(2, e), "1=1 2={1=1 5=0} 5=0"},
			{a + e + in(2, a, in(2, a)) + in(2, e, in(2, e)), "1=1 2={1=1 2={1=1 5=0} 5=0} 5=0"},
			{a + e + in(2, in(3, a, e)) + in(2, a, e), "1=1 2={1=1 3={1=1 5=0} 5=0} 5=0"},
		})
	}
	whole := a + e
	for _, full := range []string{"two.One", "three.One"} {
		refuse(t, p, full, in(6), api.ErrRequired)
		refuse(t, p, full, in(6, a), api.ErrRequired)
		refuse(t, p, full, in(3, in(6)), api.ErrRequired)
		refuse(t, p, full, in(6, whole)+uv(5, 1)+in(6), api.ErrRequired)
		refuse(t, p, full, in(6, a)+uv(5, 1)+in(6, e), api.ErrRequired)
		// What is taken away isn't there.
		hold(t, p, full, in(6)+uv(5, 1), "5=1")
		hold(t, p, full, in(6)+uv(5, 1)+in(6, whole), "6={1=1 5=0}")
		hold(t, p, full, in(3, in(6))+uv(1, 1), "1=1")
		hold(t, p, full, in(3, in(6))+in(3, uv(5, 1)), "3={5=1}")
	}
	for _, full := range []string{"two.Maps", "three.Maps"} {
		refuse(t, p, full, in(100, uv(1, 1), in(2)), api.ErrRequired)
		refuse(t, p, full, in(100, uv(1, 1), in(2, whole))+in(100, uv(1, 2), in(2, a)), api.ErrRequired)
		refuse(t, p, full, in(100, uv(1, 1), in(2, whole))+in(100, uv(1, 1), in(2)), api.ErrRequired)
		hold(t, p, full, in(100, uv(1, 1), in(2))+in(100, uv(1, 1), in(2, whole)), "100={1=1 2={1=1 5=0}}")
		hold(t, p, full, in(100, uv(1, 1), in(2, a), in(2, e)), "100={1=1 2={1=1 5=0}}")
		hold(t, p, full, in(100, uv(1, 1)), "100={1=1}")
	}
}

// P19.1: what else must be there: extensions, numbers of an enum that has them, fields that no check would take.
func TestRequiredOthers(t *testing.T) {
	m := api.Message{Name: "M", Fields: []api.Field{field("a", 1, 2, api.TEnum, ".E"), field("b", 2, 2, api.TString, "")}}
	p := made(t, api.File{Name: "a", Messages: []api.Message{m, {Name: "X"}, {Name: "O", Fields: []api.Field{oneof(field("a", 1, 2, api.TInt32, ""), 1), oneof(field("b", 2, 0, api.TInt32, ""), 1)}}, {Name: "N", Fields: []api.Field{field("a", 0, 2, api.TInt32, "")}}},
		Enums: []api.Enum{enum("E", 0)}, Extends: []api.Field{extension("x", ".X", 9, 2, api.TBool, "")}})
	hold(t, p, "M", uv(1, 0)+in(2, "a"), `1=0 2="a"`)
	refuse(t, p, "M", uv(1, 1)+in(2, "a"), api.ErrRequired) // it stands in Unknown
	refuse(t, p, "M", uv(1, 0)+uv(2, 1), api.ErrRequired)
	refuse(t, p, "X", "", api.ErrRequired)
	hold(t, p, "X", uv(9, 1), "9=1")
	refuse(t, p, "O", uv(1, 1)+uv(2, 1), api.ErrRequired)
	hold(t, p, "O", uv(2, 1)+uv(1, 1), "1=1")
	for _, bytes := range []string{"", uv(1, 1)} {
		refuse(t, p, "N", bytes, api.ErrRequired) // no field on the wire has its number
	}
}

// deep answers the bytes of so many messages within one another.
func deep(levels, num int, innermost string) string {
	for range levels - 1 {
		innermost = in(num, innermost)
	}
	return innermost
}

// P19.1: 64 messages within one another, and one more, which counts if it has anything in it.
func TestDeep(t *testing.T) {
	p := made(t, base()...)
	for _, num := range []int{11, 111, 211} {
		for levels := 1; levels <= api.MaxDeep; levels++ {
			for _, x := range []try{{uv(3, 5), "{3=5}"}, {uv(99, 1), "{?980601}"}, {"", "0"}} {
				holdDeep(t, p, levels, num, x)
			}
		}
		for _, nothing := range []string{"", in(105), in(105) + in(114)} {
			holdDeep(t, p, 65, num, try{nothing, "0"})
		}
		for _, levels := range []int{66, 67, 100, 1000} {
			for _, innermost := range []string{uv(3, 5), "", "\x08", in(9, "\xff"), in(103, "\x80"), in(105)} {
				refuse(t, p, "three.All", deep(levels, num, innermost), api.ErrLong)
			}
		}
		for _, innermost := range []string{uv(3, 5), uv(3, 0), uv(99, 1), uv(105, 0), in(9), in(105, "\x00"), in(11), in(11, "\x08"), in(105) + in(9, "a") + in(105)} {
			refuse(t, p, "three.All", deep(65, num, innermost), api.ErrLong)
		}
		// What isn't a message doesn't count.
		hold(t, p, "two.None", deep(100, num, ""), "?"+hexOf(deep(100, num, "")))
		m, err := decode.Msg(p, "two.All", []byte(deep(64, num, in(12, deep(20, 11, "")))))
		if err != api.OK || !strings.Contains(said(m), "12=") {
			t.Errorf("%s, %d", said(m), err)
		}
		m, err = decode.Msg(p, "two.All", []byte(deep(64, num, i64(num, 1))))
		if err != api.OK || len(said(m)) == 0 {
			t.Errorf("%s, %d", said(m), err)
		}
	}
	// So it is of extensions, and of messages that come again, or are taken away.
	for _, x := range []try{{deep(64, 1004, ""), ""}, {deep(65, 1004, ""), ""}, {deep(65, 1004, uv(3, 5)), "long"}, {deep(64, 11, "") + deep(65, 11, "") + deep(65, 11, in(105)), ""}, {deep(64, 11, uv(3, 5)) + deep(65, 11, ""), ""},
		{deep(3, 11, "") + deep(65, 11, uv(3, 5)) + deep(3, 11, ""), "long"}, {deep(65, 11, "") + deep(65, 11, uv(3, 5)), "long"}, {deep(65, 11, "") + deep(66, 11, ""), "long"}} {
		if _, err := decode.Msg(p, "three.All", []byte(x.bytes)); (err == api.ErrLong) != (x.want == "long") {
			t.Errorf("%x: %d", x.bytes, err)
		}
	}
	for _, x := range []try{{in(3) + uv(1, 1), ""}, {in(3, uv(7, 1)), "long"}, {in(3, uv(7, 1)) + uv(1, 1), "long"}} {
		if _, err := decode.Msg(p, "two.One", []byte(deep(64, 3, x.bytes))); (err == api.ErrLong) != (x.want == "long") {
			t.Errorf("%x: %d", x.bytes, err)
		}
	}
}

// holdDeep holds of an innermost message what is wanted of it; 0 is one without anything in it.
func holdDeep(t *testing.T, p *pool.Pool, levels, num int, innermost try) {
	t.Helper()
	want := innermost.want
	for range levels - 1 {
		want = "{" + decimal(uint64(num)) + "=" + want + "}"
	}
	hold(t, p, "two.All", deep(levels, num, innermost.bytes), strings.TrimSuffix(strings.TrimPrefix(strings.TrimPrefix(want, "{"), "0"), "}"))
}

// P19.1: entries of maps count as other messages do.
func TestDeepEntries(t *testing.T) {
	l := []api.Message{{Name: "M", Fields: []api.Field{field("m", 1, 3, api.TMessage, ".Entry")}}, entry("Entry", api.TInt32, api.TMessage, ".M")}
	p := made(t, api.File{Name: "a", Messages: l})
	bytes := ""
	for levels := 2; levels < 70; levels++ {
		bytes = in(levels%2+1, bytes)
		if levels%2 == 0 {
			_, err := decode.Msg(p, "M", []byte(bytes+uv(9, 1)))
			if (err == api.ErrLong) != (levels > 65) {
				t.Errorf("%d: %d", levels, err)
			}
		}
	}
	for inner, want := range map[string]api.Errno{"": api.OK, uv(1, 0): api.ErrLong, uv(3, 5): api.ErrLong} {
		bytes = in(1, inner) + in(1, inner)
		for level := 63; level > 0; level-- {
			bytes = in(level%2+1, bytes)
		}
		if _, err := decode.Msg(p, "Entry", []byte(bytes)); err != want {
			t.Errorf("%x: %d", inner, err)
		}
	}
}

// P19.1, P4: the errors of the one message that is too many come ahead, but for those of messages within it.
func TestDeepErrors(t *testing.T) {
	p := made(t, base()...)
	for innermost, want := range map[string]api.Errno{"\x08": api.ErrVarint, "\x00\x01": api.ErrTag, "\x0a\x01": api.ErrWire, in(9, "\xff"): api.ErrText, in(105, "\x80"): api.ErrWorth, uv(3, 5) + in(9, "\xff"): api.ErrText, uv(99, 1) + in(105, "\x80"): api.ErrWorth,
		in(9, "\xff") + in(11): api.ErrText, in(11) + in(9, "\xff"): api.ErrLong, in(11) + "\x08": api.ErrVarint, in(11, "\x08"): api.ErrLong} {
		for _, num := range []int{11, 111, 211} {
			refuse(t, p, "three.All", deep(65, num, innermost), want)
		}
	}
}

// P19.3: what may stand within one another is told again.
func TestDeepBack(t *testing.T) {
	p := made(t, base()...)
	for levels := 60; levels < 70; levels++ {
		for _, num := range []int{11, 111, 211} {
			for _, within := range []int{0, 11, 111, 211} {
				m := api.Msg{}
				if within != 0 {
					m = api.Msg{Slots: []api.Slot{{Num: within, Vals: []api.Val{{}}}}}
				}
				for range levels - 1 {
					m = api.Msg{Slots: []api.Slot{{Num: num, Vals: []api.Val{{M: m}}}}}
				}
				b, err := encode.Msg(p, "two.All", m)
				fits := levels < 65 || levels == 65 && within == 0
				if (err == api.OK) != fits || value.Fit(p, "two.All", m) != fits {
					t.Errorf("%d, %d, %d: %d", levels, num, within, err)
				}
				if !fits {
					continue
				}
				if again, err := decode.Msg(p, "two.All", b); err != api.OK || !value.Same(again, m) {
					t.Errorf("%d, %d, %d: %s, %d", levels, num, within, said(again), err)
				}
			}
		}
	}
}

// P19.1: ErrNone ahead of all else, if there is no such message.
func TestNone(t *testing.T) {
	p := made(t, base()...)
	for _, full := range []string{"two", "two.E", "two.E0", "two.All.f3", "two.All.within", "two.x", "two.One.o", "none", "", ".", ".two.All", "All", "two.All."} {
		for _, bytes := range []string{"", uv(1, 1), "\x08", in(11), in(9, "\xff")} {
			refuse(t, p, full, bytes, api.ErrNone)
		}
	}
	for _, none := range []*pool.Pool{nil, {}, made(t)} {
		refuse(t, none, "two.All", uv(3, 5), api.ErrNone)
		refuse(t, none, "", "", api.ErrNone)
	}
}

// P19.1: ErrNone of a field whose type there isn't, where a message of it comes.
func TestNoType(t *testing.T) {
	for _, typed := range []string{"", ".", "N", ".none", ".E", ".M.f", "..N", ".N."} {
		p := made(t, api.File{Name: "a", Messages: []api.Message{{Name: "M", Fields: []api.Field{field("f", 1, 0, api.TMessage, typed), field("l", 2, 3, api.TMessage, typed), field("m", 3, 0, api.TMessage, ".M"), field("b", 4, 2, api.TInt32, "")}}, {Name: "N"}}, Enums: []api.Enum{enum("E", 0)}})
		for _, bytes := range []string{in(1), in(2), in(1, "\x08"), in(3, in(1)), in(3) + in(2, uv(1, 1)), uv(4, 1) + in(1)} {
			refuse(t, p, "M", bytes, api.ErrNone)
		}
		hold(t, p, "M", uv(4, 1)+uv(1, 1)+i32(2, 1), "4=1 ?08011501000000")
		refuse(t, p, "M", in(3, "\x08")+in(1), api.ErrVarint)
	}
	// A message may have no name, but what has no type has none.
	nameless := []api.Field{field("f", 1, 0, api.TMessage, ""), field("g", 2, 0, api.TMessage, "."), field("h", 3, 3, api.TMessage, "x")}
	p := made(t, api.File{Name: "a", Messages: []api.Message{{Name: "", Fields: nameless}}})
	refuse(t, p, "", in(1), api.ErrNone)
	refuse(t, p, "", in(3), api.ErrNone)
	hold(t, p, "", in(2, in(2)), "2={2=0}")
}

// P19.1: a field whose type isn't known takes nothing.
func TestNoSuchType(t *testing.T) {
	for _, kind := range []int{0, 10, 19, -1, math.MaxInt, 1<<32 + api.TInt32} {
		p := of(t, field("f", 1, 0, kind, ".N"), field("l", 2, 3, kind, ".N"))
		bytes := uv(1, 1) + in(1, "a") + i32(2, 1) + in(2, "\x01") + i64(1, 1)
		m, err := decode.Msg(p, "M", []byte(bytes))
		if said(m) != "?"+hexOf(bytes) || err != api.OK {
			t.Errorf("type %d: %s, %d", kind, said(m), err)
		}
	}
}

// P19.1: wire.Read's error of the whole ahead of its fields' errors.
func TestWire(t *testing.T) {
	p := made(t, base()...)
	for _, full := range []string{"two.All", "three.All", "two.None", "two.Need"} {
		for _, ahead := range []string{"", uv(99, 1), in(9, "\xff"), in(105, "\x80"), deep(70, 11, ""), in(11, "\x08")} {
			for _, x := range []struct {
				bytes string
				want  api.Errno
			}{{"\x80", api.ErrVarint}, {"\x08", api.ErrVarint}, {"\x08\x80", api.ErrVarint}, {"\x08" + strings.Repeat("\xff", 10), api.ErrVarint}, {"\x00\x01", api.ErrTag}, {"\x0b", api.ErrTag}, {"\x0c", api.ErrTag}, {"\x0e", api.ErrTag}, {"\x0f", api.ErrTag},
				{"\x80\x80\x80\x80\x10\x01", api.ErrTag}, {"\x0a\x01", api.ErrWire}, {"\x0a\x80", api.ErrVarint}, {"\x09\x01\x02\x03\x04\x05\x06\x07", api.ErrWire}, {"\x0d\x01\x02\x03", api.ErrWire}} {
				refuse(t, p, full, ahead+x.bytes, x.want)
			}
		}
	}
}

// P19.1, P4: errors come in the order of the fields, ErrRequired at last.
func TestErrorOrder(t *testing.T) {
	p := made(t, base()...)
	faults := []struct {
		bytes string
		want  api.Errno
	}{
		{in(9, "\xff"), api.ErrText}, {in(105, "\x80"), api.ErrWorth}, {in(11, "\x08"), api.ErrVarint}, {in(11, "\x00\x01"), api.ErrTag}, {in(11, "\x0a\x01"), api.ErrWire}, {deep(66, 11, ""), api.ErrLong},
		{in(11, in(9, "\xff")), api.ErrText}, {in(111, in(11, in(105, "\x80"))), api.ErrWorth}, {in(107, "\x01"), api.ErrWorth},
	}
	for _, first := range faults {
		refuse(t, p, "three.All", first.bytes, first.want)
		for _, second := range faults {
			refuse(t, p, "three.All", first.bytes+second.bytes, first.want)
			refuse(t, p, "three.All", uv(3, 5)+uv(99, 1)+first.bytes+uv(3, 5)+second.bytes, first.want)
			refuse(t, p, "three.All", in(11, first.bytes)+second.bytes, map[bool]api.Errno{true: api.ErrLong, false: first.want}[first.want == api.ErrLong])
			// Within a message its wire.Read's error is ahead.
			refuse(t, p, "three.All", in(11, first.bytes, "\x0f")+second.bytes, api.ErrTag)
		}
		// ErrRequired is last, wherever it is.
		refuse(t, p, "three.Need", in(5, first.bytes), map[bool]api.Errno{true: api.ErrLong, false: first.want}[first.want == api.ErrLong])
		refuse(t, p, "three.Need", in(2)+uv(1, 1)+in(5, first.bytes), first.want)
		refuse(t, p, "three.Need", in(3)+in(3)+in(2, in(5, first.bytes)), first.want)
	}
	refuse(t, p, "three.Need", in(4, "\xff"), api.ErrText)
	refuse(t, p, "three.Need", in(6, "\x80"), api.ErrWorth)
	refuse(t, p, "three.Need", in(2)+in(4, "\xff"), api.ErrText)
	// What is taken away later is wrong all the same.
	refuse(t, p, "three.One", in(2, "\xff")+uv(1, 1), api.ErrText)
	refuse(t, p, "three.One", in(3, "\x08")+uv(1, 1), api.ErrVarint)
	refuse(t, p, "three.Maps", in(5, uv(1, 1), in(2, "\xff"))+in(5, uv(1, 1)), api.ErrText)
}

// P19.3: messages of all kinds come back.
func TestBack(t *testing.T) {
	p := made(t, base()...)
	all := ""
	for _, x := range numbers() {
		all += laidOn(x.kind, x.wire, 0) + laidOn(100+x.kind, x.wire, 5) + in(200+x.kind, bare(x.wire, 5), bare(x.wire, 0))
	}
	all += in(9, "a") + in(12, "\xff") + in(109) + in(112, "b") + in(1000, "x") + uv(1002, 5) + uv(1003, 5) + uv(99, 1) + i32(3, 1)
	for _, full := range []string{"two.All", "three.All"} {
		for _, bytes := range []string{all, all + in(11, all) + in(111, all) + in(111, all, in(1004, all))} {
			m, err := decode.Msg(p, full, []byte(bytes))
			if err != api.OK || len(m.Slots) < 40 {
				t.Errorf("%s: %s, %d", full, said(m), err)
			}
			back(t, p, full, m)
		}
	}
}

// P2: what lies behind a list's length is neither read nor written.
func TestBehindLength(t *testing.T) {
	p := made(t, base()...)
	all := []byte(uv(99, 1) + in(112, "ab") + uv(3, 5) + in(111, uv(99, 1)) + uv(4, 6))
	given := slices.Clone(all)
	size := len(all) - 2
	m, err := decode.Msg(p, "two.All", given[:size])
	if said(m) != `3=5 111={?980601} 112="ab" ?980601` || err != api.OK {
		t.Errorf("%s, %d", said(m), err)
	}
	m.Unknown = append(m.Unknown, "more"...)
	m.Slots[1].Vals[0].M.Unknown = append(m.Slots[1].Vals[0].M.Unknown, "more"...)
	m.Slots[2].Vals[0].B = append(m.Slots[2].Vals[0].B, "more"...)
	for i := range m.Slots {
		m.Slots[i].Vals = append(m.Slots[i].Vals, api.Val{N: 9})
	}
	m.Slots = append(m.Slots, api.Slot{Num: 1})
	if string(given) != string(all) {
		t.Errorf("%x is written behind a length", given)
	}
}

// memory answers where everything lies that v reaches.
func memory(v reflect.Value) [][2]uintptr {
	var l [][2]uintptr
	switch v.Kind() {
	case reflect.Struct:
		for i := range v.NumField() {
			l = append(l, memory(v.Field(i))...)
		}
	case reflect.String:
		at := uintptr(unsafe.Pointer(unsafe.StringData(v.String())))
		l = append(l, [2]uintptr{at, at + uintptr(v.Len())})
	case reflect.Interface:
		l = memory(v.Elem())
	case reflect.Slice:
		for i := range v.Len() {
			l = append(l, memory(v.Index(i))...)
		}
		l = append(l, [2]uintptr{v.Pointer(), v.Pointer() + uintptr(v.Cap())*v.Type().Elem().Size()})
	}
	return slices.DeleteFunc(l, func(s [2]uintptr) bool { return s[0] == s[1] })
}

// P2: what is answered shares no memory with what is given, with what the pool keeps, or within itself.
func TestMemory(t *testing.T) {
	way := copies.Way{Levels: api.MaxDeep}
	l := base()
	for i := range l {
		l[i] = way.File(l[i]) // texts that stand in a source lie together
	}
	p := made(t, l...)
	kept, _ := p.Message("two.All")
	// What nothing holds any more may lie where what comes later does.
	held := []any{l, kept}
	for full, bytes := range map[string]string{
		"two.All":  uv(99, 1) + in(9, "abc") + in(112, "ab") + in(112, "cd") + in(105, "\x01\x02") + in(11, uv(99, 1), in(9, "x")) + in(11, uv(99, 2)) + in(111, uv(3, 5)) + in(111, uv(98, 1)) + uv(14, 6) + in(1004, in(1000, "z")),
		"two.Maps": in(9, in(1, "a"), in(2, "b")) + in(9, in(1, "c"), in(2, "d")) + in(9, in(1, "a"), in(2, "e")),
		"two.One":  in(2, "abc") + in(3, in(2, "a")) + in(3, in(2, "b")),
	} {
		given := []byte(bytes)
		held = append(held, given)
		for range 2 {
			m, err := decode.Msg(p, full, given)
			if err != api.OK {
				t.Fatal(err)
			}
			held = append(held, m)
		}
	}
	spans := memory(reflect.ValueOf(held))
	slices.SortFunc(spans, func(a, b [2]uintptr) int { return int(a[0]) - int(b[0]) })
	for i := range spans[1:] {
		if spans[i][1] > spans[i+1][0] {
			t.Errorf("%x and %x share memory", spans[i], spans[i+1])
		}
	}
}

// P3: an answer hangs on its arguments alone; nil and empty are the same.
func TestAlone(t *testing.T) {
	p := made(t, base()...)
	for _, none := range [][]byte{nil, {}, make([]byte, 0, 5)} {
		if m, err := decode.Msg(p, "two.All", none); err != api.OK || said(m) != "" {
			t.Errorf("%s, %d", said(m), err)
		}
	}
	for range 3 {
		hold(t, p, "two.All", in(11, uv(3, 5)), "11={3=5}")
		refuse(t, p, "two.All", in(11, "\x08"), api.ErrVarint)
		hold(t, p, "three.All", in(11, uv(4, 5)), "11={4=5}")
	}
}

// What is large comes to an end in good time.
func TestLarge(t *testing.T) {
	p := made(t, base()...)
	const many = 50000
	var maps, oneofs strings.Builder
	for i := range uint64(many) {
		maps.WriteString(in(5, uv(1, i%(many/2))))
		oneofs.WriteString(uv(1+int(i%2)*3, 5))
	}
	m, err := decode.Msg(p, "two.Maps", []byte(maps.String()))
	if err != api.OK || len(m.Slots) != 1 || len(m.Slots[0].Vals) != many/2 {
		t.Errorf("%d", err)
	}
	hold(t, p, "two.One", oneofs.String(), "4=5")
	m, err = decode.Msg(p, "two.All", []byte(in(208, strings.Repeat("\x01", 4*many))))
	if err != api.OK || len(m.Slots) != 1 || len(m.Slots[0].Vals) != 4*many {
		t.Errorf("%d", err)
	}
	hold(t, p, "two.All", strings.Repeat(in(11, uv(3, 5)), many), "11={3=5}")
}
