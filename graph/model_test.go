package graph_test

import (
	"math/rand/v2"
	"slices"
	"sort"
	"strconv"
	"testing"

	"glossary/api"
	"glossary/graph"
)

// first answers the place of a path's unit, or -1.
func first(l []api.Unit, path string) int {
	return slices.IndexFunc(l, func(u api.Unit) bool { return u.Path == path })
}

// saysTwice answers whether a list has something twice.
func saysTwice(l []string) bool {
	for i, s := range l {
		if slices.Contains(l[:i], s) {
			return true
		}
	}
	return false
}

// step is a path that is still to be laid, or, closed, one whose imports are.
type step struct {
	path   string
	closed bool
}

// modelOrder is P10.1 by a list of steps, without calls within one another.
func modelOrder(l []api.Unit, asked []string) ([]string, string, api.Errno) {
	var order, open []string
	var steps []step
	push := func(paths []string) {
		for i := len(paths) - 1; i >= 0; i-- {
			steps = append(steps, step{path: paths[i]})
		}
	}
	push(asked)
	for len(steps) > 0 {
		next := steps[len(steps)-1]
		steps = steps[:len(steps)-1]
		place := first(l, next.path)
		switch {
		case next.closed:
			order, open = append(order, next.path), open[:len(open)-1]
		case slices.Contains(order, next.path):
		case slices.Contains(open, next.path):
			return nil, next.path, api.ErrCycle
		case place < 0:
			return nil, next.path, api.ErrMissing
		case saysTwice(l[place].Deps):
			return nil, next.path, api.ErrTwice
		default:
			open = append(open, next.path)
			steps = append(steps, step{next.path, true})
			push(l[place].Deps)
		}
	}
	return order, "", api.OK
}

// grown answers what a set of paths comes to by rounds that go over all units, until one finds nothing new.
func grown(l []api.Unit, set map[string]bool, leads func(u api.Unit, place int) bool) []string {
	for found := true; found; {
		found = false
		for i, u := range l {
			if !set[u.Path] || first(l, u.Path) != i {
				continue
			}
			for place, dep := range u.Deps {
				if leads(u, place) && !set[dep] {
					set[dep], found = true, true
				}
			}
		}
	}
	var paths []string
	for path := range set {
		paths = append(paths, path)
	}
	sort.Strings(paths)
	return paths
}

func modelVisible(l []api.Unit, path string) []string {
	place := first(l, path)
	if place < 0 {
		return nil
	}
	set := map[string]bool{path: true}
	for _, dep := range l[place].Deps {
		set[dep] = true
	}
	return grown(l, set, func(u api.Unit, place int) bool { return slices.Contains(u.Public, place) })
}

func modelClosure(l []api.Unit, path string) []string {
	if first(l, path) < 0 {
		return nil
	}
	return grown(l, map[string]bool{path: true}, func(api.Unit, int) bool { return true })
}

// sample answers units and what is asked of them, by chance that is the same each time.
func sample(seed uint64) ([]api.Unit, []string) {
	r := rand.New(rand.NewPCG(seed, 10))
	paths := 1 + r.IntN(9)
	path := func() string { return strconv.Itoa(r.IntN(paths)) }
	tidy := r.IntN(2) == 0 // no rings, nothing missing, nothing twice
	var l []api.Unit
	for i := range paths {
		u := api.Unit{Path: strconv.Itoa(i)}
		if !tidy {
			u.Path = path()
		}
		for range r.IntN(4) {
			dep := path()
			if n, _ := strconv.Atoi(dep); tidy && (n >= i || slices.Contains(u.Deps, dep)) {
				continue
			}
			if !tidy && r.IntN(12) == 0 {
				dep = "missing"
			}
			u.Deps = append(u.Deps, dep)
		}
		for range r.IntN(3) {
			u.Public = append(u.Public, r.IntN(6)-1)
		}
		l = append(l, u)
	}
	r.Shuffle(len(l), func(i, j int) { l[i], l[j] = l[j], l[i] })
	var asked []string
	for range r.IntN(4) {
		asked = append(asked, path())
	}
	return l, asked
}

// holdAll holds all calls against the model, and P10.4.
func holdAll(t *testing.T, l []api.Unit, asked []string) api.Errno {
	t.Helper()
	order, path, err := graph.Order(l, asked)
	wantOrder, wantPath, wantErr := modelOrder(l, asked)
	if !slices.Equal(order, wantOrder) || path != wantPath || err != wantErr {
		t.Fatalf("Order of %v, asked %v: %v, %q, %d, want %v, %q, %d", l, asked, order, path, err, wantOrder, wantPath, wantErr)
	}
	ends := slices.Concat(asked, []string{"missing", ""})
	for _, u := range l {
		ends = append(ends, u.Path)
	}
	for _, end := range ends {
		if got, want := graph.Visible(l, end), modelVisible(l, end); !slices.Equal(got, want) {
			t.Fatalf("Visible of %v from %q: %v, want %v", l, end, got, want)
		}
		if got, want := graph.Closure(l, end), modelClosure(l, end); !slices.Equal(got, want) {
			t.Fatalf("Closure of %v from %q: %v, want %v", l, end, got, want)
		}
	}
	if err == api.OK {
		holdInOrder(t, l, asked, order)
	}
	return err
}

// holdInOrder holds P10.4: no path ahead of one that it imports, and just what the asked come to, each once.
func holdInOrder(t *testing.T, l []api.Unit, asked, order []string) {
	t.Helper()
	for i, path := range order {
		for _, dep := range l[first(l, path)].Deps {
			if !slices.Contains(order[:i], dep) {
				t.Fatalf("Order of %v: %v: %s isn't behind %s", l, order, path, dep)
			}
		}
	}
	var all []string
	for _, path := range asked {
		all = append(all, graph.Closure(l, path)...)
	}
	slices.Sort(all)
	if sorted := slices.Sorted(slices.Values(order)); !slices.Equal(sorted, slices.Compact(all)) {
		t.Fatalf("Order of %v, asked %v: %v", l, asked, order)
	}
}

// P10.1 to P10.4, on units by chance.
func TestModel(t *testing.T) {
	met := map[api.Errno]int{}
	for seed := range uint64(20000) {
		l, asked := sample(seed)
		met[holdAll(t, l, asked)]++
	}
	for _, err := range []api.Errno{api.OK, api.ErrMissing, api.ErrCycle, api.ErrTwice} {
		if met[err] < 500 {
			t.Errorf("the samples meet %d only %d times", err, met[err])
		}
	}
}

func FuzzSeed(f *testing.F) {
	for seed := range uint64(20) {
		f.Add(seed)
	}
	f.Fuzz(func(t *testing.T, seed uint64) {
		l, asked := sample(seed)
		holdAll(t, l, asked)
	})
}

// FuzzUnits takes units from bytes: a path, its Deps, 0, the public places from 1 on, 0; then what is asked for.
func FuzzUnits(f *testing.F) {
	f.Add("abc\x00\x00\x00bc\x00\x01\x00c\x00\x00", "a")
	f.Add("aa\x00\x00", "a")
	f.Add("abb\x00\x00b\x00\x00", "ab")
	f.Fuzz(func(t *testing.T, said, asks string) {
		var l []api.Unit
		for rest := []byte(said); len(rest) > 0; {
			u := api.Unit{Path: string(rest[:1])}
			for rest = rest[1:]; len(rest) > 0 && rest[0] != 0; rest = rest[1:] {
				u.Deps = append(u.Deps, string(rest[:1]))
			}
			for rest = rest[min(1, len(rest)):]; len(rest) > 0 && rest[0] != 0; rest = rest[1:] {
				u.Public = append(u.Public, int(int8(rest[0]))-1)
			}
			rest = rest[min(1, len(rest)):]
			l = append(l, u)
		}
		var asked []string
		for _, b := range []byte(asks) {
			asked = append(asked, string([]byte{b}))
		}
		if len(l) > 40 || len(said) > 400 || len(asked) > 40 {
			t.Skip("the model is slow")
		}
		holdAll(t, l, asked)
	})
}
