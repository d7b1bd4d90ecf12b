package value_test

import (
	"math"
	"reflect"
	"slices"
	"strings"
	"testing"
	"unsafe"

	"glossary/api"
	"glossary/copies"
	"glossary/pool"
	"glossary/value"
)

// edges are numbers at which something ends.
func edges() []uint64 {
	return []uint64{0, 1, 2, 127, 1<<31 - 1, 1 << 31, 1<<32 - 1, 1 << 32, 1<<63 - 1, 1 << 63, 1<<64 - 1<<32, minus(1<<31 + 1), minus(1 << 31), minus(2), minus(1)}
}

// P17.2: of each type the numbers that it has.
func TestScalarNumbers(t *testing.T) {
	without := []uint64{0, 1, 2, 127, 1<<31 - 1, 1 << 31, 1<<32 - 1}
	with := []uint64{0, 1, 2, 127, 1<<31 - 1, minus(1 << 31), minus(2), minus(1)}
	want := map[int][]uint64{
		api.TInt64: edges(), api.TUint64: edges(), api.TFixed64: edges(), api.TSfixed64: edges(), api.TSint64: edges(), api.TDouble: edges(),
		api.TUint32: without, api.TFixed32: without, api.TFloat: without,
		api.TInt32: with, api.TSint32: with, api.TSfixed32: with, api.TEnum: with,
		api.TBool: {0, 1}, api.TString: {0}, api.TBytes: {0},
	}
	for _, kind := range append(types(), 0, 10, 19, 20, -1, 1<<32+api.TInt32, math.MaxInt, math.MinInt) {
		for _, number := range edges() {
			if got := value.Scalar(kind, n(number)); got != slices.Contains(want[kind], number) {
				t.Errorf("%d of type %d: %t", int64(number), kind, got)
			}
		}
	}
}

// P17.2: bytes are of texts and bytes alone, a message of none.
func TestScalarOthers(t *testing.T) {
	for _, kind := range append(types(), 0, 10, 19, -1) {
		isText := kind == api.TString || kind == api.TBytes
		is := kind > 0 && kind < 19 && kind != 10 && kind != api.TMessage
		for _, x := range []struct {
			v    api.Val
			want bool
		}{
			{api.Val{}, is},
			{api.Val{B: []byte{}, M: api.Msg{Slots: []api.Slot{}, Unknown: []byte{}}}, is},
			{b("a"), isText},
			{b("\xff\x00"), isText}, // which texts may be, the field's file says
			{b("\x00"), isText},
			{api.Val{N: 1, B: []byte("a")}, false},
			{in(slot(1, n(1))), false},
			{in(slot(0)), false},
			{api.Val{M: unknown("\x08")}, false},
			{api.Val{B: []byte("a"), M: unknown("a")}, false},
			{api.Val{B: []byte("abc")[:0], M: api.Msg{Slots: []api.Slot{slot(1)}[:0], Unknown: []byte("a")[:0]}}, is},
		} {
			if got := value.Scalar(kind, x.v); got != x.want {
				t.Errorf("%+v of type %d: %t", x.v, kind, got)
			}
		}
	}
	for _, m := range endless() {
		if value.Scalar(api.TBytes, api.Val{M: m}) {
			t.Error("a message without end is one of bytes")
		}
	}
}

// namesOf answers the names of fields, in order.
func namesOf(l []api.Field) string {
	var said []string
	for _, f := range l {
		said = append(said, f.Name)
	}
	return strings.Join(said, " ")
}

// fields are a message's and its extensions, in several files, some of them of one number.
func fields() []api.File {
	f := func(name string, number int64) api.Field { return field(name, number, 0, api.TInt32, "") }
	x := func(name string, number int64) api.Field { return extension(name, ".p.M", number, 0, api.TInt32, "") }
	m := api.Message{Name: "M", Fields: []api.Field{f("c", 9), f("b", 5), f("a", 5), f("d", -3), f("e", math.MaxInt64), f("g", 0)},
		Nested: []api.Message{{Name: "N", Fields: []api.Field{f("n", 1)}, Extends: []api.Field{x("z", 5), x("y", 1)}}}, Extends: []api.Field{x("w", 9)}}
	return []api.File{
		{Name: "x", Package: "p", Messages: []api.Message{m}, Extends: []api.Field{x("v", 5), x("u", math.MinInt64), extension("no", ".p.Q", 1, 0, api.TInt32, ""), extension("own", ".p.M.N", 1, 0, api.TInt32, "")}},
		{Name: "y", Package: "o", Extends: []api.Field{x("t", 5), x("s", 100)}, Messages: []api.Message{{Name: "Empty"}}},
	}
}

// P17.3: fields and extensions by Number; of one Number fields come first, as they stand, then extensions by their full names.
func TestFields(t *testing.T) {
	l := fields()
	p := made(t, l...)
	for full, want := range map[string]string{
		"p.M":     "u d g y b a t z v c w s e", // of 5: o.t, p.M.N.z, p.v
		"p.M.N":   "n own",
		"o.Empty": "",
		"p.Q":     "", "p": "", "p.M.b": "", "p.M.w": "", "p.v": "", ".p.M": "", "": "", "M": "",
	} {
		if got := value.Fields(p, full); namesOf(got) != want {
			t.Errorf("Fields(%q): %s, want %s", full, namesOf(got), want)
		}
	}
	if got, want := value.Fields(p, "p.M.N"), []api.Field{l[0].Messages[0].Nested[0].Fields[0], l[0].Extends[3]}; !reflect.DeepEqual(got, want) {
		t.Errorf("%+v, want %+v", got, want)
	}
	for _, none := range []*pool.Pool{nil, {}} {
		if l := value.Fields(none, "p.M"); len(l) != 0 {
			t.Errorf("%+v", l)
		}
	}
}

// P17.3: of one Number only the first counts: what others are, nothing asks.
func TestFirstCounts(t *testing.T) {
	m := api.Message{Name: "M", Fields: []api.Field{field("a", 1, 0, api.TInt32, ""), field("b", 1, api.LabelRequired, api.TString, ""), field("c", 2, 0, api.TBool, ""), field("d", 1, 3, api.TBytes, "")}}
	p := made(t, api.File{Name: "x", Messages: []api.Message{m}, Extends: []api.Field{extension("A", ".M", 2, api.LabelRequired, api.TInt64, ""),
		extension("z", ".M", 3, 3, api.TInt32, ""), extension("y", ".M", 3, 0, api.TString, "")}})
	holdAll(t, p, "M", []try{
		{api.Msg{}, true},
		{msg(slot(1, n(1))), true},
		{msg(slot(1, b("a"))), false},
		{msg(slot(1, n(1), n(1))), false},
		{msg(slot(2, n(1))), true},
		{msg(slot(2, n(2))), false},
		{msg(slot(3, b("a"))), true}, // y is ahead of z
		{msg(slot(3, n(1))), false},
		{unknown("\x0a\x00"), true},
		{unknown("\x08\x00"), false},
		{unknown("\x18\x00"), true},
		{unknown("\x1a\x00"), false},
	})
	p = made(t, api.File{Name: "x", Messages: []api.Message{{Name: "M", Fields: []api.Field{m.Fields[1], m.Fields[0]}}}})
	holdAll(t, p, "M", []try{{api.Msg{}, false}, {msg(slot(1, b("a"))), true}, {msg(slot(1, n(1))), false}})
}

// P17.4: how many messages stand within one another; those without anything don't count, but for the first.
func TestDeep(t *testing.T) {
	for deep := 1; deep < 70; deep++ {
		for _, innermost := range []api.Msg{unknown("a"), msg(slot(0)), msg(slot(1, api.Val{})), msg(slot(1, b("a"), n(1)), slot(2)), msg(slot(1, api.Val{M: api.Msg{Slots: []api.Slot{}, Unknown: []byte{}}}))} {
			m := nested(deep, 11, innermost)
			wide := msg(slot(1, n(1), in(), api.Val{M: nested(min(deep, 3), 1, unknown("a"))}), slot(2), slot(3, in(slot(1)), api.Val{M: m}, in()), slot(4, api.Val{M: nested(min(deep, 2), 1, unknown("a"))}))
			want, wanted := deep, deep+1
			if deep > 64 {
				want = 100
			}
			if deep > 63 {
				wanted = 100
			}
			if deep > 2 && value.Deep(wide) != wanted || value.Deep(m) != want {
				t.Errorf("%d: %d, %d", deep, value.Deep(m), value.Deep(wide))
			}
		}
	}
	for _, m := range []api.Msg{{}, {Slots: []api.Slot{}, Unknown: []byte{}}, unknown("a"), msg(slot(1, n(1))), msg(slot(3, api.Val{}))} {
		if got := value.Deep(m); got != 1 {
			t.Errorf("Deep(%+v): %d", m, got)
		}
	}
	if got := value.Deep(nested(65, 11, api.Msg{})); got != 64 {
		t.Errorf("64, and one without anything: %d", got)
	}
}

// P1: messages that stand within themselves have no end, and all calls have one.
func TestWithinItself(t *testing.T) {
	p := made(t, base()...)
	for _, m := range endless() {
		for _, full := range []string{"two.All", "three.All", "two.None", "none"} {
			if value.Fit(p, full, m) {
				t.Errorf("Fit takes it as %s", full)
			}
		}
		if value.Deep(m) != 100 || value.Same(m, m) || value.Same(m, api.Msg{}) || value.Same(api.Msg{}, m) || value.Same(m, endless()[0]) {
			t.Errorf("Deep %d, or Same", value.Deep(m))
		}
	}
}

// change calls see while each leaf, and each list's length, of v is another, one at a time.
func change(v reflect.Value, way string, see func(way string)) {
	old := reflect.New(v.Type()).Elem()
	old.Set(v)
	switch v.Kind() {
	case reflect.Struct:
		for i := range v.NumField() {
			change(v.Field(i), way+"."+v.Type().Field(i).Name, see)
		}
		return
	case reflect.Slice:
		for i := range v.Len() {
			change(v.Index(i), way+"[]", see)
		}
		if v.Len() > 0 {
			v.Set(old.Slice(0, v.Len()-1))
			see(way + " without its last")
		}
		v.Set(reflect.Append(old.Slice3(0, old.Len(), old.Len()), reflect.Zero(v.Type().Elem())))
	case reflect.Uint8:
		v.SetUint(old.Uint() ^ 0x80)
	case reflect.Uint64:
		v.SetUint(old.Uint() ^ 1<<63)
	default:
		v.SetInt(old.Int() ^ 1<<40)
	}
	see(way)
	v.Set(old)
}

// great answers a message in which nothing is left out.
func great(deep int) api.Msg {
	m := api.Msg{Unknown: []byte("ab")}
	for num := range 2 {
		s := slot(num + 1)
		for k := range 2 {
			v := api.Val{N: uint64(5 + k), B: []byte("cd")}
			if deep > 1 {
				v.M = great(deep - 1)
			}
			s.Vals = append(s.Vals, v)
		}
		m.Slots = append(m.Slots, s)
	}
	return m
}

// P17.4: whatever is another makes them unlike, at whichever side and wherever it stands.
func TestSameAsksAll(t *testing.T) {
	one, two := great(3), great(3)
	if !value.Same(one, two) {
		t.Fatal("a message isn't the same as its copy")
	}
	seen := 0
	change(reflect.ValueOf(&two).Elem(), "Msg", func(way string) {
		seen++
		if value.Same(one, two) || value.Same(two, one) {
			t.Errorf("%s isn't asked", way)
		}
	})
	if seen < 500 || !value.Same(one, two) {
		t.Errorf("%d changes were seen", seen)
	}
}

// P17.4, P3: nothing and none are the same; what is deeper than 64 is like nothing.
func TestSame(t *testing.T) {
	none := api.Msg{Slots: []api.Slot{{Num: 1, Vals: []api.Val{{B: []byte{}, M: api.Msg{Slots: []api.Slot{}, Unknown: []byte{}}}}}, {Num: 2, Vals: []api.Val{}}}, Unknown: []byte{}}
	nils := msg(slot(1, api.Val{}), slot(2))
	behind := api.Msg{Slots: append(slices.Clone(nils.Slots), slot(3))[:2], Unknown: []byte("a")[:0]}
	for _, one := range []api.Msg{none, nils, behind} {
		for _, two := range []api.Msg{none, nils, behind} {
			if !value.Same(one, two) {
				t.Errorf("%+v, %+v", one, two)
			}
		}
	}
	if !value.Same(api.Msg{}, api.Msg{}) || !value.Same(api.Msg{}, api.Msg{Slots: []api.Slot{}}) || value.Same(api.Msg{}, msg(slot(0))) {
		t.Error("nothing")
	}
	for deep := 60; deep < 70; deep++ {
		one, two := nested(deep, 1, unknown("a")), nested(deep, 1, unknown("a"))
		if value.Same(one, two) != (deep <= 64) || value.Same(one, one) != (deep <= 64) || value.Same(one, nested(deep-1, 1, unknown("a"))) || value.Same(nested(deep-1, 1, unknown("a")), one) {
			t.Errorf("%d messages within one another", deep)
		}
	}
	for _, x := range [][2]api.Msg{
		{msg(slot(1, n(1)), slot(2, n(1))), msg(slot(2, n(1)), slot(1, n(1)))},
		{msg(ones(1, 1, 2)), msg(ones(1, 2, 1))},
		{msg(ones(1, 1, 2)), msg(ones(1, 1), ones(1, 2))},
		{msg(slot(1, n(0))), msg(slot(1, in(slot(0))))},
		{unknown("\x08\x01"), msg(slot(1, n(1)))},
		{unknown("\x08\x01\x10\x01"), unknown("\x10\x01\x08\x01")},
	} {
		if value.Same(x[0], x[1]) || value.Same(x[1], x[0]) {
			t.Errorf("%+v, %+v", x[0], x[1])
		}
	}
}

// P17.5: only numbers of which there may be more are written in one; where the Options don't say it, the file does.
func TestPacked(t *testing.T) {
	p := made(t, base()...)
	for _, kind := range append(types(), 0, 10, 19, -1) {
		number := kind > 0 && kind < 19 && !slices.Contains([]int{9, 10, 11, 12}, kind)
		for _, label := range []int{-1, 0, 1, 2, 3, 4} {
			is := number && label == api.LabelRepeated
			f := api.Field{Label: label, Type: kind}
			yes, no := f, f
			yes.Options, no.Options = []byte{0x10, 1}, []byte{0x10, 0}
			for full, proto3 := range map[string]bool{"two.All": false, "three.All": true, "none": false, "two.text": false, "three.text": true, "": false} {
				if got := value.Packed(p, full, f); got != (is && proto3) {
					t.Errorf("type %d, label %d, of %s: %t", kind, label, full, got)
				}
				if value.Packed(p, full, yes) != is || value.Packed(p, full, no) {
					t.Errorf("type %d, label %d, of %s, as the Options say: %t, %t", kind, label, full, value.Packed(p, full, yes), value.Packed(p, full, no))
				}
			}
		}
	}
}

// P17.5: the last field 2 that is a number, if all of the Options are read.
func TestPackedOptions(t *testing.T) {
	p := made(t, base()...)
	for options, want := range map[string]string{
		"":             "file",
		"\x10\x01":     "yes",
		"\x10\x00":     "no",
		"\x10\x02":     "yes",
		"\x10\x80\x00": "no",
		"\x10\x80\x01": "yes",
		"\x10\xff\xff\xff\xff\xff\xff\xff\xff\xff\x01": "yes",
		"\x10\x80\x80\x80\x80\x80\x80\x80\x80\x80\x01": "yes",
		"\x10\x01\x10\x00":                     "no",
		"\x10\x00\x10\x01":                     "yes",
		"\x10\x01\x18\x00":                     "yes",
		"\x10\x00\x18\x01":                     "no",
		"\x18\x01":                             "file",
		"\x08\x01":                             "file",
		"\x90\x00\x01":                         "yes", // field 2 in a longer tag
		"\x90\x01\x01":                         "file",
		"\x12\x01\x01":                         "file", // WireLen
		"\x15\x01\x00\x00\x00":                 "file", // WireI32
		"\x11\x01\x00\x00\x00\x00\x00\x00\x00": "file", // WireI64
		"\x10\x01\x12\x00":                     "yes",
		"\x10\x00\x15\x01\x00\x00\x00":         "no",
		"\x1a\x02\x10\x01":                     "file", // within another field
		"\x10\x01\x10":                         "file", // not all of them are read
		"\x10\x00\x10":                         "file",
		"\x10\x01\x00":                         "file",
		"\x10\x00\x12\x05a":                    "file",
		"\x10\x01\x13":                         "file",
		"\x1a\x02ab\x10\x01\x1a\x00":           "yes",
	} {
		f := api.Field{Label: api.LabelRepeated, Type: api.TEnum, Options: []byte(options), Unknown: []byte("\x10\x01")}
		for full, proto3 := range map[string]bool{"two.All": false, "three.All": true} {
			if got := value.Packed(p, full, f); got != (want == "yes" || want == "file" && proto3) {
				t.Errorf("%x of %s: %t, want %s", options, full, got, want)
			}
		}
	}
	f := api.Field{Label: api.LabelRepeated, Type: api.TBool, Options: []byte("\x10\x01\x10\x00")[:2]}
	if !value.Packed(p, "two.All", f) || !value.Packed(nil, "two.All", f) || !value.Packed(&pool.Pool{}, "", f) {
		t.Error("the Options say yes")
	}
	f.Options = []byte("\x10\x01")[:0]
	if value.Packed(nil, "three.All", f) || !value.Packed(p, "three.All", f) || value.Packed(p, ".three.All", f) {
		t.Error("the file says it")
	}
}

// P17.6: a symbol of whichever kind, by its file's Syntax.
func TestProto3(t *testing.T) {
	full := func(name, pack, syntax string) api.File {
		return api.File{Name: name, Package: pack, Syntax: syntax, Messages: []api.Message{{Name: "M", Fields: []api.Field{{Name: "f"}}, Oneofs: []api.Oneof{{Name: "o"}}, Nested: []api.Message{{Name: "N"}}, Extends: []api.Field{{Name: "x"}}}},
			Enums: []api.Enum{enum("E", 0)}, Services: []api.Service{{Name: "S", Methods: []api.Method{{Name: "m"}}}}, Extends: []api.Field{{Name: "x"}}}
	}
	p := made(t, full("a", "two", ""), full("b", "three", "proto3"), full("c", "other", "proto2"), full("d", "great", "Proto3"), full("e", "longer", "proto3 "),
		api.File{Name: "f", Package: "two.p", Syntax: "proto3"}, api.File{Name: "g", Package: "three.p"}, api.File{Syntax: "proto3", Messages: []api.Message{{Name: "Unnamed"}}})
	for _, pack := range []string{"two", "three", "other", "great", "longer"} {
		for _, end := range []string{"", ".M", ".M.f", ".M.o", ".M.N", ".M.x", ".E", ".E0", ".S", ".S.m", ".x"} {
			if p.Kind(pack+end) == 0 {
				t.Fatal(pack + end)
			}
			if got := value.Proto3(p, pack+end); got != (pack == "three") {
				t.Errorf("%s: %t", pack+end, got)
			}
		}
	}
	for name, want := range map[string]bool{"two.p": true, "three.p": false, "Unnamed": true, "none": false, "": false, ".three.M": false, "b": false, "three.": false, "three.M.none": false} {
		if got := value.Proto3(p, name); got != want {
			t.Errorf("%q: %t", name, got)
		}
	}
	if value.Proto3(nil, "three.M") || value.Proto3(&pool.Pool{}, "") {
		t.Error("a pool that has nothing")
	}
	// Of files of one Name the pool tells the first.
	p = made(t, api.File{Name: "a", Syntax: "proto3"}, api.File{Name: "a", Messages: []api.Message{{Name: "M"}}})
	if !value.Proto3(p, "M") {
		t.Error("a file of a Name that is there already")
	}
}

// memory answers that of all lists, as far as they have room, and of all texts, from byte to byte.
func memory(v reflect.Value) [][2]uintptr {
	var l [][2]uintptr
	switch v.Kind() {
	case reflect.Struct:
		for i := range v.NumField() {
			l = append(l, memory(v.Field(i))...)
		}
	case reflect.Slice:
		l = append(l, [2]uintptr{v.Pointer(), v.Pointer() + uintptr(v.Cap())*v.Type().Elem().Size()})
		for i := range v.Len() {
			l = append(l, memory(v.Index(i))...)
		}
	case reflect.String:
		from := uintptr(unsafe.Pointer(unsafe.StringData(v.String())))
		l = append(l, [2]uintptr{from, from + uintptr(v.Len())})
	}
	return slices.DeleteFunc(l, func(s [2]uintptr) bool { return s[0] == s[1] })
}

// P2: what Fields answers shares no memory with what is given, with what the pool keeps, or with another answer.
func TestMemory(t *testing.T) {
	l := fields()
	for i := range l[0].Messages[0].Fields {
		f := &l[0].Messages[0].Fields[i]
		f.Options, f.Unknown, f.TypeName, f.Default = []byte("options"), []byte("unknown"), ".typed", "default"
	}
	// Texts that stand in a source lie together.
	way := copies.Way{Levels: api.MaxDeep}
	l = []api.File{way.File(l[0]), way.File(l[1])}
	p := made(t, l...)
	kept, _ := p.Message("p.M")
	x, _ := p.Ext("p.v")
	one, two := value.Fields(p, "p.M"), value.Fields(p, "p.M")
	var spans [][2]uintptr
	for _, part := range []any{l, kept, x, one, two} {
		spans = append(spans, memory(reflect.ValueOf(part))...)
	}
	slices.SortFunc(spans, func(a, b [2]uintptr) int { return int(a[0]) - int(b[0]) })
	for i := range spans[1:] {
		if spans[i][1] > spans[i+1][0] {
			t.Errorf("%x and %x share memory", spans[i], spans[i+1])
		}
	}
	before := []api.File{way.File(l[0]), way.File(l[1])}
	for i := range one {
		clear(one[i].Options)
		one[i] = api.Field{}
	}
	if !reflect.DeepEqual(value.Fields(p, "p.M"), two) || !reflect.DeepEqual(l, before) {
		t.Error("another answer is changed, or what was given")
	}
}

// P2: what lies behind a length isn't read.
func TestBehindLength(t *testing.T) {
	p := made(t, base()...)
	slots := []api.Slot{slot(3, n(1)), slot(4, n(1)), slot(4)}
	vals := []api.Val{n(1), n(2), b("a")}
	hold(t, p, "two.All", api.Msg{Slots: slots[:2], Unknown: []byte("\xa0\x06\x01\x00")[:3]}, true)
	hold(t, p, "two.All", api.Msg{Slots: slots}, false)
	hold(t, p, "two.All", msg(slot(3, vals[:1]...)), true)
	hold(t, p, "two.All", msg(slot(103, vals[:2]...)), true)
	hold(t, p, "two.All", msg(slot(103, vals...)), false)
	hold(t, p, "two.All", msg(slot(3, api.Val{N: 1, B: []byte("a")[:0], M: msg(slot(1))})), false)
	hold(t, p, "two.All", msg(slot(3, api.Val{N: 1, B: []byte("a")[:0], M: msg([]api.Slot{slot(1)}[:0]...)})), true)
	if !value.Same(msg(slots[:1]...), msg(slot(3, n(1)))) || value.Deep(msg(slot(1, []api.Val{n(1), in(slot(1))}[:1]...))) != 1 {
		t.Error("Same or Deep reads behind the length")
	}
}
