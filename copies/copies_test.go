package copies_test

import (
	"reflect"
	"slices"
	"strconv"
	"testing"
	"unsafe"

	"glossary/api"
	"glossary/copies"
	"glossary/desc"
)

// filler fills parts so that nothing in them is zero, and no two things are alike.
type filler struct {
	count int
}

func (f *filler) fill(v reflect.Value, levels int) {
	f.count++
	switch v.Kind() {
	case reflect.Struct:
		for i := range v.NumField() {
			f.fill(v.Field(i), levels)
		}
	case reflect.String:
		v.SetString("text " + strconv.Itoa(f.count))
	case reflect.Bool:
		v.SetBool(true)
	case reflect.Int, reflect.Int64:
		v.SetInt(int64(f.count))
	case reflect.Uint8:
		v.SetUint(uint64(1 + f.count%250))
	case reflect.Slice:
		if v.Type() == reflect.TypeFor[[]api.Message]() {
			levels--
		}
		if levels < 0 {
			return
		}
		v.Set(reflect.MakeSlice(v.Type(), 2, 5))
		for i := range v.Len() {
			f.fill(v.Index(i), levels)
		}
	}
}

// whole answers a file of so many levels of messages in which nothing else is left out.
func whole(levels int) api.File {
	var f api.File
	new(filler).fill(reflect.ValueOf(&f).Elem(), levels)
	return f
}

// without answers the file with fewer levels, and clean, by what its type itself tells.
func without(f api.File, levels int, clean bool) api.File {
	cut(reflect.ValueOf(&f).Elem(), levels, clean)
	return f
}

func cut(v reflect.Value, levels int, clean bool) {
	for i := range v.NumField() {
		part := v.Field(i)
		if clean && v.Type().Field(i).Name == "Unknown" {
			part.SetZero()
		}
		if part.Kind() != reflect.Slice || part.Type().Elem().Kind() != reflect.Struct {
			continue
		}
		below := levels
		if part.Type() == reflect.TypeFor[[]api.Message]() {
			below--
		}
		if below < 0 {
			part.SetZero()
		}
		for k := range part.Len() {
			cut(part.Index(k), below, clean)
		}
	}
}

func TestFile(t *testing.T) {
	for levels := range 5 {
		for _, clean := range []bool{false, true} {
			given := whole(3)
			got := copies.Way{Levels: levels, Clean: clean}.File(given)
			if !reflect.DeepEqual(given, whole(3)) {
				t.Error("what was given is changed")
			}
			if want := without(whole(3), levels, clean); !reflect.DeepEqual(got, want) {
				t.Errorf("%d levels, clean %v: %+v, want %+v", levels, clean, got, want)
			}
		}
	}
}

func TestParts(t *testing.T) {
	f := whole(3)
	for levels := range 5 {
		got := copies.Way{Levels: levels}.Message(f.Messages[1])
		want := without(whole(3), max(levels, 1), false).Messages[1]
		if !reflect.DeepEqual(got, want) {
			t.Errorf("%d levels: %+v, want %+v", levels, got, want)
		}
	}
	if got := (copies.Way{}).Field(f.Extends[1]); !reflect.DeepEqual(got, f.Extends[1]) {
		t.Errorf("%+v, want %+v", got, f.Extends[1])
	}
	if got := (copies.Way{}).Enum(f.Enums[1]); !reflect.DeepEqual(got, f.Enums[1]) {
		t.Errorf("%+v, want %+v", got, f.Enums[1])
	}
	if got := copies.Texts(f.Deps); !slices.Equal(got, f.Deps) || copies.Texts(nil) != nil {
		t.Errorf("%q, want %q", got, f.Deps)
	}
	if got := copies.Places(f.Public); !slices.Equal(got, f.Public) || copies.Places(nil) != nil {
		t.Errorf("%v, want %v", got, f.Public)
	}
}

// A list that stands within itself is copied as far as the levels go.
func TestWithinItself(t *testing.T) {
	one := []api.Message{{Name: "A"}}
	one[0].Nested = one
	if got := (copies.Way{Levels: 64}).File(api.File{Messages: one}); desc.Deep(got) != 64 {
		t.Errorf("%d levels", desc.Deep(got))
	}
	if got := (copies.Way{Levels: -1}).Message(one[0]); got.Name != "A" || len(got.Nested) != 0 {
		t.Errorf("%+v", got)
	}
}

// spans answers the memory of all lists and texts, from byte to byte, as far as the lists have room.
func spans(v reflect.Value) [][2]uintptr {
	var l [][2]uintptr
	switch v.Kind() {
	case reflect.Struct:
		for i := range v.NumField() {
			l = append(l, spans(v.Field(i))...)
		}
	case reflect.Slice:
		l = append(l, [2]uintptr{v.Pointer(), v.Pointer() + uintptr(v.Cap())*v.Type().Elem().Size()})
		for i := range v.Len() {
			l = append(l, spans(v.Index(i))...)
		}
	case reflect.String:
		from := uintptr(unsafe.Pointer(unsafe.StringData(v.String())))
		l = append(l, [2]uintptr{from, from + uintptr(v.Len())})
	}
	return l
}

func TestMemory(t *testing.T) {
	f := whole(3)
	way := copies.Way{Levels: 64}
	one, two := way.File(f), way.File(f)
	message, enum, field := way.Message(f.Messages[0]), way.Enum(f.Enums[0]), way.Field(f.Extends[0])
	texts, places := copies.Texts(f.Deps), copies.Places(f.Public)
	var all [][2]uintptr
	for _, part := range []any{f, one, two, message, enum, field, texts, places} {
		all = append(all, spans(reflect.ValueOf(part))...)
	}
	slices.SortFunc(all, func(a, b [2]uintptr) int { return int(a[0]) - int(b[0]) })
	for i := range all[1:] {
		if all[i][1] > all[i+1][0] {
			t.Errorf("%x and %x share memory", all[i], all[i+1])
		}
	}
	if len(all) < 3000 {
		t.Errorf("only %d lists and texts", len(all))
	}
}

// What lies behind a list's length isn't read.
func TestBehindLength(t *testing.T) {
	f := whole(1)
	f.Enums, f.Deps, f.Options = f.Enums[:1], f.Deps[:1], f.Options[:1]
	got := copies.Way{}.File(f)
	if len(got.Enums) != 1 || len(got.Deps) != 1 || len(got.Options) != 1 {
		t.Errorf("%+v", got)
	}
	for _, e := range got.Enums[:cap(got.Enums)][1:] {
		if e.Name != "" {
			t.Errorf("%q is handed out", e.Name)
		}
	}
	for _, b := range got.Options[:cap(got.Options)][1:] {
		if b != 0 {
			t.Errorf("%d is handed out", b)
		}
	}
}
