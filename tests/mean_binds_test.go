package tests

import (
	"math/rand"
	"slices"
	"strconv"
	"testing"

	"loop.example/headrace/impl"
)

func bound(names ...string) []impl.Bind {
	var b []impl.Bind
	for i, s := range names {
		b = append(b, impl.Bind{Name: s, Val: i*i - 3})
	}
	return b
}

// manyBinds are so many binds, n0 the first of them.
func manyBinds(n int) []impl.Bind {
	var names []string
	for i := range n {
		names = append(names, "n"+strconv.Itoa(i))
	}
	return bound(names...)
}

var noNames = append([]string{"", "A", "aB", "1", "1a", "abcdefghi", "a b", "a-b", "a_", "ä", "aä", "a\xff", " a", "a ", "a\n", "\x00", "a=", "-a"}, allKeys...)

func TestBinds(t *testing.T) {
	for _, b := range [][]impl.Bind{nil, {}, bound("a"), bound("abcdefgh"), bound("a1"), bound("b", "a"), bound("a", "aa", "aaa"), bound("iff", "nott", "repp", "a0"), {{Name: "x", Val: least}, {Name: "y", Val: most}, {Name: "z", Val: least}}} {
		if !impl.BindsOk(b) {
			t.Errorf("%v", b)
		}
	}
	for n := range 45 {
		if impl.BindsOk(manyBinds(n)) != (n <= 40) {
			t.Errorf("%d binds", n)
		}
	}
	if impl.BindsOk(manyBinds(100000)) {
		t.Error("very many binds")
	}
}

func TestBindsWithoutNames(t *testing.T) {
	for _, s := range noNames {
		if impl.BindsOk(bound(s)) {
			t.Errorf("%q is no name", s)
		}
		for at := range 5 {
			if b := bound("a", "b", "c", "d", "e"); impl.BindsOk(slices.Insert(b, at, impl.Bind{Name: s})) {
				t.Errorf("%q is no name, at %d", s, at)
			}
		}
	}
}

func TestBindsThatAreAlike(t *testing.T) {
	for i := range 40 {
		for j := range i {
			b := manyBinds(40)
			b[i].Name = b[j].Name
			if impl.BindsOk(b) {
				t.Fatalf("%d is like %d", i, j)
			}
			b[i].Val = b[j].Val
			if impl.BindsOk(b) {
				t.Fatalf("%d is like %d, its value too", i, j)
			}
		}
	}
	if impl.BindsOk(bound("a", "a")) || impl.BindsOk([]impl.Bind{{}, {}}) {
		t.Error("two that are alike")
	}
}

func TestBindsAgainstModel(t *testing.T) {
	r := rand.New(rand.NewSource(32))
	names := slices.Concat(someNames, someNames, []string{"", "or", "abcdefghi", "X"})
	well := 0
	for range 20000 {
		var b []impl.Bind
		for range r.Intn(6) {
			b = append(b, impl.Bind{Name: names[r.Intn(len(names))], Val: int(r.Uint64())})
		}
		want := modelBinds(b)
		well += oneIf(want)
		if impl.BindsOk(b) != want {
			t.Fatal(b)
		}
	}
	if well < 1000 || well > 19000 {
		t.Fatal(well)
	}
}
