package tests

import (
	"maps"
	"math/rand"
	"slices"
	"testing"

	"loop.example/headrace/impl"
)

// annals are all that was ever defined, by names, and which of these names are no more.
type annals struct {
	defined map[string]impl.Sig
	gone    map[string]bool
}

// agrees: what the register has is what was defined, to the byte; what went is among those that are no more, and nothing else is.
func (a annals) agrees(t *testing.T, r impl.Reg) {
	t.Helper()
	if !impl.RegOk(r) {
		t.Fatalf("%+v is none", r)
	}
	if len(r.Sigs)+len(r.Gone) != len(a.defined) || !slices.Equal(r.Gone, slices.Sorted(maps.Keys(a.gone))) {
		t.Fatalf("%+v, but %v", r, a)
	}
	for _, s := range r.Sigs {
		if a.defined[s.Name] != s || a.gone[s.Name] {
			t.Fatalf("%+v, but %v", r, a)
		}
	}
}

// stands: none of the names that were ever defined can be defined again, and none on which others lean goes.
func (a annals) stands(t *testing.T, r impl.Reg, body string) {
	t.Helper()
	held := map[string]bool{}
	for _, s := range r.Sigs {
		ins, _ := impl.SigIns(s.Body)
		for _, in := range ins {
			held[in] = true
		}
	}
	for name, s := range a.defined {
		want := impl.RegTwice
		if a.gone[name] {
			want = impl.RegUsed
		}
		for _, again := range []impl.Sig{s, {Name: name}, {Name: name, Home: (s.Home + 1) % 5, Body: s.Body}, {Name: name, Body: body}} {
			if then, code := impl.RegAdd(r, again); code != want || !sameReg(then, r) {
				t.Fatalf("%+v to %+v: %+v %d", again, r, then, code)
			}
		}
		if then, code := impl.RegDrop(r, name); held[name] && (code != impl.RegHeld || !sameReg(then, r)) || a.gone[name] && (code != impl.RegNone || !sameReg(then, r)) {
			t.Fatalf("%q from %+v: %+v %d", name, r, then, code)
		}
	}
}

func TestPromise11ANameMeansOneThingForEver(t *testing.T) {
	r := rand.New(rand.NewSource(11))
	added, dropped, held := 0, 0, 0
	for range 60 {
		a := annals{map[string]impl.Sig{}, map[string]bool{}}
		var reg impl.Reg
		for range 60 {
			s := anySig(r, reg)
			if then, code := impl.RegAdd(reg, s); code == impl.RegDone {
				if _, ever := a.defined[s.Name]; ever {
					t.Fatalf("%+v once more to %+v", s, reg)
				}
				added++
				a.defined[s.Name] = s
				reg = then
			}
			a.agrees(t, reg)
			if len(reg.Sigs) == 0 || r.Intn(5) > 1 {
				continue
			}
			name := reg.Sigs[r.Intn(len(reg.Sigs))].Name
			then, code := impl.RegDrop(reg, name)
			switch code {
			case impl.RegDone:
				dropped++
				a.gone[name] = true
				reg = then
			case impl.RegHeld:
				held++
			default:
				t.Fatalf("%q from %+v: %d", name, reg, code)
			}
			a.agrees(t, reg)
			a.stands(t, reg, s.Body[:len(s.Body)*oneIf(impl.SigOk(s))])
		}
	}
	if added < 400 || dropped < 250 || held < 200 {
		t.Fatal(added, dropped, held)
	}
}

// A name that is no more stays so until there is room for no other one; and then nothing goes any more.
func TestPromise11NamesThatAreNoMoreStaySo(t *testing.T) {
	a := annals{map[string]impl.Sig{}, map[string]bool{}}
	var reg impl.Reg
	for i, name := range numbered("n", 61) {
		s := impl.Sig{Name: name, Home: i % 5}
		then, code := impl.RegAdd(reg, s)
		if code != impl.RegDone {
			t.Fatal(name, code)
		}
		reg = then
		a.defined[name] = s
		then, code = impl.RegDrop(reg, name)
		if want := impl.RegMany * oneIf(i == 60); code != want {
			t.Fatal(name, code)
		}
		reg = then
		if code == impl.RegDone {
			a.gone[name] = true
		}
		a.agrees(t, reg)
		a.stands(t, reg, "")
	}
	for _, bad := range []impl.Reg{regOf("x; x", ""), regOf("x", "x"), regOf("", "b a"), sourcesOnly(17), regOf("s = x; x", "")} {
		for _, name := range []string{"x", "s", "new"} {
			if then, code := impl.RegAdd(bad, impl.Sig{Name: name}); code != impl.RegBad || !sameReg(then, impl.Reg{}) {
				t.Errorf("%q to %+v: %+v %d", name, bad, then, code)
			}
			if then, code := impl.RegDrop(bad, name); code != impl.RegBad || !sameReg(then, impl.Reg{}) {
				t.Errorf("%q from %+v: %+v %d", name, bad, then, code)
			}
		}
	}
}

// regMeaning is what a signal means, if it does.
type regMeaning struct {
	val int
	ok  bool
}

func meaningIn(r impl.Reg, b []impl.Bind, name string) regMeaning {
	val, ok := impl.RegMean(r, b, name)
	return regMeaning{val, ok}
}

// byInputs is what a signal's body comes to by what its inputs mean.
func byInputs(t *testing.T, r impl.Reg, b []impl.Bind, s impl.Sig) regMeaning {
	t.Helper()
	ins, ok := impl.SigIns(s.Body)
	l, fault := impl.TreeRead(s.Body)
	if !ok || fault.Code != 0 {
		t.Fatalf("%+v", s)
	}
	var known []impl.Bind
	for _, in := range ins {
		m := meaningIn(r, b, in)
		if !m.ok {
			return regMeaning{}
		}
		known = append(known, impl.Bind{Name: in, Val: m.val})
	}
	val, _, code := impl.MeanOf(l, known)
	if code != impl.MeanDone && code != impl.MeanSpent {
		t.Fatalf("%+v: %d", s, code)
	}
	return regMeaning{val, true}
}

func TestPromise12WhatASignalMeans(t *testing.T) {
	r := rand.New(rand.NewSource(12))
	seen, spent := [2]int{}, 0
	for n := range 300 {
		reg := randomReg(r, 1+r.Intn(16))
		if at := len(reg.Sigs) - 1; n%10 == 0 && at > 0 && at < 12 {
			reg.Sigs = append(reg.Sigs, impl.Sig{Name: "busy1", Body: reg.Sigs[at].Name + spentBody[1:]}, impl.Sig{Name: "busy2", Body: "busy1 + 7"})
		}
		b := randomVals(r, reg)
		for _, s := range reg.Sigs {
			got := meaningIn(reg, b, s.Name)
			seen[oneIf(got.ok)]++
			if s.Body != "" {
				if want := byInputs(t, reg, b, s); got != want {
					t.Fatalf("%+v of %+v with %v: %v, not %v", s, reg, b, got, want)
				}
				spent += oneIf(s.Name == "busy2" && got == regMeaning{7, true})
			} else if at := slices.IndexFunc(b, func(x impl.Bind) bool { return x.Name == s.Name }); at < 0 && got != (regMeaning{}) || at >= 0 && got != (regMeaning{b[at].Val, true}) {
				t.Fatalf("%+v of %+v with %v: %v", s, reg, b, got)
			}
			lacks := func(src string) bool {
				return !slices.ContainsFunc(b, func(x impl.Bind) bool { return x.Name == src })
			}
			if got.ok == slices.ContainsFunc(impl.RegSources(reg, s.Name), lacks) {
				t.Fatalf("%+v of %+v with %v: %v", s, reg, b, got)
			}
		}
	}
	if slices.Min(seen[:]) < 300 || spent < 5 {
		t.Fatal(seen, spent)
	}
}

// What comes behind a signal, what goes that it does not lean on, homes, and names that are no more change nothing in what it means; nor do sources and depths become others.
func TestPromise12NothingBehindChangesIt(t *testing.T) {
	r := rand.New(rand.NewSource(112))
	type told struct {
		mean    regMeaning
		sources string
		depth   int
	}
	tell := func(reg impl.Reg, b []impl.Bind, name string) told {
		return told{meaningIn(reg, b, name), many{slices.Clip(impl.RegSources(reg, name))}.contents(), impl.RegDepth(reg, name)}
	}
	grown, less := 0, 0
	for range 80 {
		whole := randomReg(r, 1+r.Intn(16))
		b := randomVals(r, whole)
		var reg impl.Reg
		want := map[string]told{}
		still := func(reg impl.Reg) {
			t.Helper()
			for name, is := range want {
				if got := tell(reg, b, name); got != is {
					t.Fatalf("%q of %+v with %v: %v, not %v", name, reg, b, got, is)
				}
			}
		}
		for _, s := range whole.Sigs {
			then, code := impl.RegAdd(reg, s)
			if code != impl.RegDone {
				t.Fatalf("%+v to %+v: %d", s, reg, code)
			}
			reg = then
			want[s.Name] = tell(reg, b, s.Name)
			grown++
			still(reg)
		}
		moved := impl.Reg{Sigs: slices.Clone(reg.Sigs), Gone: whole.Gone}
		for i := range moved.Sigs {
			moved.Sigs[i].Home = r.Intn(5)
		}
		still(moved)
		for _, s := range slices.Backward(whole.Sigs) {
			then, code := impl.RegDrop(reg, s.Name)
			if code != impl.RegDone {
				t.Fatalf("%q from %+v: %d", s.Name, reg, code)
			}
			reg = then
			delete(want, s.Name)
			less++
			still(reg)
		}
	}
	if grown < 500 || less != grown {
		t.Fatal(grown, less)
	}
}
