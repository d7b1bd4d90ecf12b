package check_test

import (
	"reflect"
	"strings"
	"testing"

	"glossary/api"
	"glossary/check"
	"glossary/copies"
	"glossary/graph"
	"glossary/link"
	"glossary/lower"
	"glossary/parse"
	"glossary/pool"
)

// The sources of files that are taken: of proto2, of proto3, and one that sees the first by the second.
const (
	first = `
package p.q;
message M {
  optional int32 a = 1 [default = -5];
  repeated M b = 2;
  required string c = 3;
  optional E e = 4 [default = E1];
  map<string, N> my_map = 5;
  oneof o { int32 x = 6; N y = 7; }
  oneof alone { bool z = 8; }
  message N {
    optional Inner i = 1;
    message Inner { map<int32, E> deep_map = 1; }
    extend M { optional N deep = 150; }
  }
  enum In { I0 = 3; I1 = -1; }
  extensions 100 to 199, 300, 536870911;
  reserved 20 to 29, 40;
  reserved "foo", "bar";
  extend M { repeated In in = 199; }
}
enum E { E0 = 0; E1 = 1; E2 = -2147483648; E3 = 2147483647; }
service S { rpc r (M) returns (M.N); rpc s (stream M) returns (stream M); }
extend M { optional bool e1 = 100 [default = true]; repeated E e2 = 300; optional E e3 = 536870911 [default = E0]; }
`
	second = `
syntax = "proto3";
import public "a.proto";
package p;
message T {
  optional int32 a = 1;
  string b = 2;
  repeated q.M c = 3;
  F f = 4;
  map<int64, F> map = 5;
  oneof o { F x = 6; bytes y = 7; }
  optional F g = 8;
  reserved 100 to 110;
}
enum F { F0 = 0; F1 = 5; }
extend q.M { F e1 = 101; }
`
	third = `
import "b.proto";
message U { optional p.q.M a = 1; required p.F b = 2; optional p.q.E c = 3 [default = E3]; extensions 100 to max; }
extend p.q.M { optional U e = 102; }
extend U { optional p.T t = 100; repeated U u = 19500; }
service Z { rpc a (p.T) returns (U); }
`
)

// compiled answers the files of sources, named a.proto, b.proto and so on, with their names found.
func compiled(t testing.TB, sources ...string) []api.File {
	t.Helper()
	var l []api.File
	for i, s := range sources {
		n, at, err := parse.File(s)
		if err != api.OK {
			t.Fatalf("parse: %d: %d, %d", i, at, err)
		}
		f, _, at, err := lower.File(n, string(rune('a'+i))+".proto")
		if err != api.OK {
			t.Fatalf("lower: %d: %d, %d", i, at, err)
		}
		p, full, err := pool.New(append(copied(l), f))
		if err != api.OK {
			t.Fatalf("pool: %d: %q, %d", i, full, err)
		}
		f, name, err := link.File(f, p, graph.Visible(p.Units(), f.Name))
		if err != api.OK {
			t.Fatalf("link: %d: %q, %d", i, name, err)
		}
		l = append(l, f)
	}
	return l
}

// copied answers files in memory of their own.
func copied(l []api.File) []api.File {
	var own []api.File
	for _, f := range l {
		own = append(own, copies.Way{Levels: api.MaxDeep}.File(f))
	}
	return own
}

// base answers the files of the sources above.
func base(t testing.TB) []api.File {
	t.Helper()
	return compiled(t, first, second, third)
}

// parts tells all parts of a file, as pointers, with their full names.
func parts(f *api.File, tell func(full string, part any)) {
	var messages func(l []api.Message, scope string)
	enums := func(l []api.Enum, scope string) {
		for i := range l {
			tell(join(scope, l[i].Name), &l[i])
			for k := range l[i].Values {
				tell(join(scope, l[i].Values[k].Name), &l[i].Values[k])
			}
		}
	}
	fields := func(l []api.Field, scope string) {
		for i := range l {
			tell(join(scope, l[i].Name), &l[i])
		}
	}
	messages = func(l []api.Message, scope string) {
		for i := range l {
			m := &l[i]
			full := join(scope, m.Name)
			tell(full, m)
			for k := range m.Oneofs {
				tell(join(full, m.Oneofs[k].Name), &m.Oneofs[k])
			}
			fields(m.Fields, full)
			messages(m.Nested, full)
			enums(m.Enums, full)
			fields(m.Extends, full)
		}
	}
	messages(f.Messages, f.Package)
	enums(f.Enums, f.Package)
	for i := range f.Services {
		s := &f.Services[i]
		full := join(f.Package, s.Name)
		tell(full, s)
		for k := range s.Methods {
			tell(join(full, s.Methods[k].Name), &s.Methods[k])
		}
	}
	fields(f.Extends, f.Package)
}

func join(scope, name string) string {
	if scope == "" {
		return name
	}
	return scope + "." + name
}

// find answers the part of a full name.
func find[T any](t testing.TB, l []api.File, full string) *T {
	t.Helper()
	var found *T
	for i := range l {
		parts(&l[i], func(name string, part any) {
			if p, is := part.(*T); is && name == full {
				found = p
			}
		})
	}
	if found == nil {
		t.Fatalf("there is no %q", full)
	}
	return found
}

// files are such as a test changes.
type files struct {
	t testing.TB
	l []api.File
}

func (f files) message(full string) *api.Message { return find[api.Message](f.t, f.l, full) }
func (f files) field(full string) *api.Field     { return find[api.Field](f.t, f.l, full) }
func (f files) oneof(full string) *api.Oneof     { return find[api.Oneof](f.t, f.l, full) }
func (f files) enum(full string) *api.Enum       { return find[api.Enum](f.t, f.l, full) }
func (f files) value(full string) *api.Value     { return find[api.Value](f.t, f.l, full) }
func (f files) service(full string) *api.Service { return find[api.Service](f.t, f.l, full) }
func (f files) method(full string) *api.Method   { return find[api.Method](f.t, f.l, full) }

// twist is a change of the sources' files, and what is broken by it; a rule 0: nothing.
type twist struct {
	name string
	rule int
	make func(f files)
}

// hold holds Set of files against a name and a rule, 0 of none.
func hold(t testing.TB, l []api.File, name string, rule int) {
	t.Helper()
	before := copied(l)
	got, number, err := check.Set(l)
	want := api.OK
	if rule != 0 {
		want = api.ErrCheck
	}
	if got != name || number != rule || err != want {
		t.Errorf("%q, %d, %d, want %q, %d", got, number, err, name, rule)
	}
	if !reflect.DeepEqual(before, copied(l)) {
		t.Error("what was given is changed")
	}
}

func holdTwists(t *testing.T, l []twist) {
	t.Helper()
	untouched := base(t)
	for i, x := range l {
		f := files{t, copied(untouched)}
		x.make(f)
		t.Run(x.name, func(t *testing.T) {
			t.Helper()
			hold(t, f.l, x.name, x.rule)
			if t.Failed() {
				t.Errorf("twist %d", i)
			}
		})
	}
}

// long answers a name of so many bytes.
func long(n int) string {
	return strings.Repeat("n", n)
}

// longFull answers a package that leaves room for a name of so many bytes, if a full name has 1000.
func longFull(room int) string {
	left := 1000 - room - 1
	var l []string
	for left > 200 {
		l = append(l, long(100))
		left -= 101
	}
	return strings.Join(append(l, long(left)), ".")
}
