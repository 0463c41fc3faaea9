package tests

import (
	"fmt"
	"math/rand"
	"slices"
	"strings"
	"testing"

	"loop.example/headrace/impl"
)

// adds holds RegAdd against the model and the code that is told.
func adds(t *testing.T, r impl.Reg, s impl.Sig, want int) impl.Reg {
	t.Helper()
	then, code := impl.RegAdd(r, s)
	modelled, modelCode := modelAdd(r, s)
	if code != want || modelCode != want || !sameReg(then, modelled) {
		t.Errorf("%+v to %+v: %+v %d, not %+v %d (%d)", s, r, then, code, modelled, modelCode, want)
	}
	switch code {
	case impl.RegBad:
		if !sameReg(then, impl.Reg{}) {
			t.Errorf("%+v to %+v: %+v", s, r, then)
		}
	case impl.RegDone:
		if n := len(r.Sigs); len(then.Sigs) != n+1 || !slices.Equal(then.Sigs[:n], r.Sigs) || then.Sigs[n] != s || !slices.Equal(then.Gone, r.Gone) || !impl.RegOk(then) {
			t.Errorf("%+v to %+v: %+v", s, r, then)
		}
	default:
		if !sameReg(then, r) {
			t.Errorf("%+v to %+v: %+v", s, r, then)
		}
	}
	return then
}

// drops holds RegDrop against the model and the code that is told.
func drops(t *testing.T, r impl.Reg, name string, want int) impl.Reg {
	t.Helper()
	then, code := impl.RegDrop(r, name)
	modelled, modelCode := modelDrop(r, name)
	if code != want || modelCode != want || !sameReg(then, modelled) {
		t.Errorf("%q from %+v: %+v %d, not %+v %d (%d)", name, r, then, code, modelled, modelCode, want)
	}
	if code == impl.RegBad && !sameReg(then, impl.Reg{}) || code != impl.RegBad && code != impl.RegDone && !sameReg(then, r) || code == impl.RegDone && !impl.RegOk(then) {
		t.Errorf("%q from %+v: %+v %d", name, r, then, code)
	}
	return then
}

const fewLines = "x; y@1; s@1 = x + y * 2; t@2 = if s > x then s else 0"

func TestSignalsThatAreTaken(t *testing.T) {
	r := impl.Reg{}
	for _, line := range strings.Split(fewLines+"; u@4 = s + t + x + y; a; b3 = a", "; ") {
		r = adds(t, r, sig(line), impl.RegDone)
	}
	if !sameReg(r, regOf(fewLines+"; u@4 = s + t + x + y; a; b3 = a", "")) {
		t.Errorf("%+v", r)
	}
	// a body is kept to the byte
	r = regOf(fewLines, "a b")
	for _, body := range []string{" x", "x ", "x+y", "((x))", "x  +  y", strings.Repeat(" ", 199) + "x"} {
		if then := adds(t, r, impl.Sig{Name: "new", Home: 3, Body: body}, impl.RegDone); then.Sigs[4] != (impl.Sig{Name: "new", Home: 3, Body: body}) {
			t.Errorf("%+v", then)
		}
	}
	adds(t, impl.Reg{}, sig("x"), impl.RegDone)
	adds(t, regOf("", "a"), sig("x"), impl.RegDone)
	adds(t, impl.Reg{Gone: numbered("g", 60)}, sig("x"), impl.RegDone)
}

func TestEachCodeOfSignalsThatCome(t *testing.T) {
	r := regOf(fewLines, "g h1")
	for line, code := range map[string]int{
		"X": impl.RegBad, "": impl.RegBad, "if": impl.RegBad, "a-b": impl.RegBad, "u@5": impl.RegBad, "u@-1": impl.RegBad, "u = 1 +": impl.RegBad, "u = 7": impl.RegBad, "u = a + b + c + d + e": impl.RegBad, "u = let x = 1 in x": impl.RegBad, "u =  ": impl.RegBad,
		"x": impl.RegTwice, "x@3": impl.RegTwice, "s": impl.RegTwice, "s@1 = x + y * 2": impl.RegTwice, "t = x": impl.RegTwice,
		"g": impl.RegUsed, "h1 = x": impl.RegUsed, "g@4": impl.RegUsed,
		"u = u": impl.RegLoop, "u = x + u": impl.RegLoop, "u = let x = u in x": impl.RegLoop,
		"u = q": impl.RegNone, "u = x + q": impl.RegNone, "u = q + r + s": impl.RegNone, "u = g": impl.RegNone, "u = x + y + s + z": impl.RegNone, "u = let u = q in u": impl.RegNone, "u = 0 and q": impl.RegNone,
		"u": impl.RegDone, "u = x": impl.RegDone, "u@4 = x + y + s + t": impl.RegDone, "u = let u = x in u": impl.RegDone, "u = let q = t in q": impl.RegDone, "gg": impl.RegDone, "h": impl.RegDone,
	} {
		adds(t, r, sig(line), code)
	}
	for n := 14; n <= 18; n++ {
		code := [4]int{impl.RegDone, impl.RegDone, impl.RegMany, impl.RegBad}[min(n, 17)-14]
		adds(t, sourcesOnly(n), sig("u"), code)
		adds(t, sourcesOnly(n), sig("u = s00"), code)
		adds(t, tangled(n, ""), sig("u@1 = v00 + v12"), code)
	}
	for n := 1; n <= 14; n++ {
		r := layered(n)
		last := len(r.Sigs) - 1
		if n == 1 {
			continue
		}
		code := [3]int{impl.RegDone, impl.RegMany, impl.RegBad}[max(0, n-12)]
		adds(t, impl.Reg{Sigs: r.Sigs[:last], Gone: r.Gone}, r.Sigs[last], code)
	}
}

// Of two codes that both hold the first one is told.
func TestTheOrderOfRefusalsOfSignalsThatCome(t *testing.T) {
	few, full := regOf(fewLines, "g"), sourcesOnly(16)
	full.Gone = []string{"g"}
	noReg := regOf("x; x", "g")
	seen := map[string]int{}
	for _, c := range []struct {
		r     impl.Reg
		line  string
		codes []int
	}{
		{few, "x = x", []int{impl.RegTwice, impl.RegLoop}},
		{few, "x = q", []int{impl.RegTwice, impl.RegNone}},
		{few, "s = s + q", []int{impl.RegTwice, impl.RegLoop, impl.RegNone}},
		{full, "s00", []int{impl.RegTwice, impl.RegMany}},
		{full, "s15 = s00", []int{impl.RegTwice, impl.RegMany}},
		{full, "s15 = s15 + q", []int{impl.RegTwice, impl.RegLoop, impl.RegNone, impl.RegMany}},
		{full, "s03 = s03", []int{impl.RegTwice, impl.RegLoop, impl.RegMany}},
		{full, "s03 = q", []int{impl.RegTwice, impl.RegNone, impl.RegMany}},
		{few, "g = g", []int{impl.RegUsed, impl.RegLoop, impl.RegNone}},
		{few, "g = x + q", []int{impl.RegUsed, impl.RegNone}},
		{full, "g", []int{impl.RegUsed, impl.RegMany}},
		{full, "g = s00 + s01", []int{impl.RegUsed, impl.RegMany}},
		{full, "g = g + s01", []int{impl.RegUsed, impl.RegLoop, impl.RegNone, impl.RegMany}},
		{full, "g = q", []int{impl.RegUsed, impl.RegNone, impl.RegMany}},
		{few, "u = u", []int{impl.RegLoop, impl.RegNone}},
		{few, "u = u + x", []int{impl.RegLoop, impl.RegNone}},
		{few, "u = a + u", []int{impl.RegLoop, impl.RegNone}},
		{full, "u = u", []int{impl.RegLoop, impl.RegNone, impl.RegMany}},
		{full, "u = q", []int{impl.RegNone, impl.RegMany}},
		{full, "u = s00 + q", []int{impl.RegNone, impl.RegMany}},
		{full, "u = g", []int{impl.RegNone, impl.RegMany}},
	} {
		if codes := addCodes(c.r, sig(c.line)); !slices.Equal(codes, c.codes) {
			t.Errorf("%q: %v hold", c.line, codes)
		}
		for i, first := range c.codes {
			for _, second := range c.codes[i+1:] {
				seen[fmt.Sprint(first, second)]++
			}
		}
		adds(t, c.r, sig(c.line), c.codes[0])
		// and RegBad is ahead of all of them
		adds(t, noReg, sig(c.line), impl.RegBad)
		for _, bad := range []func(s *impl.Sig){func(s *impl.Sig) { s.Home = 5 }, func(s *impl.Sig) { s.Home = -1 }, func(s *impl.Sig) { s.Body += " +" }, func(s *impl.Sig) { s.Body += strings.Repeat(" ", 201) }} {
			s := sig(c.line)
			bad(&s)
			adds(t, c.r, s, impl.RegBad)
		}
	}
	// all but RegTwice and RegUsed: what is there is not among Gone
	if len(seen) != 5*4/2-1 {
		t.Error(seen)
	}
	for _, line := range []string{"X", "if", "X = X", "X = q", "u = 7", "s00@5"} {
		adds(t, full, sig(line), impl.RegBad)
		adds(t, noReg, sig(line), impl.RegBad)
	}
}

func TestSignalsThatGo(t *testing.T) {
	r := regOf("x; y; s = x; m; z = s; n", "b x1")
	for name, want := range map[string]impl.Reg{
		"y": regOf("x; s = x; m; z = s; n", "b x1 y"), "m": regOf("x; y; s = x; z = s; n", "b m x1"), "n": regOf("x; y; s = x; m; z = s", "b n x1"), "z": regOf("x; y; s = x; m; n", "b x1 z"),
	} {
		if then := drops(t, r, name, impl.RegDone); !sameReg(then, want) {
			t.Errorf("%q: %+v", name, then)
		}
	}
	// the first, and one after the other
	if then := drops(t, regOf("a; x; s = x", "b"), "a", impl.RegDone); !sameReg(then, regOf("x; s = x", "a b")) {
		t.Errorf("%+v", then)
	}
	for _, name := range []string{"z", "s", "x", "y", "n", "m"} {
		r = drops(t, r, name, impl.RegDone)
	}
	if !sameReg(r, regOf("", "b m n s x x1 y z")) {
		t.Errorf("%+v", r)
	}
	if then := drops(t, regOf("x", ""), "x", impl.RegDone); !sameReg(then, regOf("", "x")) {
		t.Errorf("%+v", then)
	}
}

// Where a name comes to stand among those that are no more.
func TestWhereNamesThatGoStand(t *testing.T) {
	gone := strings.Fields("a a1 aa ab b ba m z zz")
	for at, name := range gone {
		r := impl.Reg{Sigs: []impl.Sig{{Name: name}}, Gone: slices.Delete(slices.Clone(gone), at, at+1)}
		if then := drops(t, r, name, impl.RegDone); !slices.Equal(then.Gone, gone) || len(then.Sigs) > 0 {
			t.Errorf("%q: %+v", name, then)
		}
	}
	all := numbered("g", 60)
	for at, name := range all {
		r := impl.Reg{Sigs: []impl.Sig{{Name: "x"}, {Name: name}, {Name: "y", Body: "x"}}, Gone: slices.Delete(slices.Clone(all), at, at+1)}
		if then := drops(t, r, name, impl.RegDone); !slices.Equal(then.Gone, all) || len(then.Sigs) != 2 {
			t.Errorf("%q: %+v", name, then)
		}
	}
}

func TestEachCodeOfSignalsThatGo(t *testing.T) {
	r := regOf(fewLines+"; last = let y1 = t in y1", "g h1")
	for _, name := range slices.Concat([]string{"q", "g", "h1", "y1", "u", "xx"}, noNames) {
		drops(t, r, name, impl.RegNone)
		drops(t, impl.Reg{}, name, impl.RegNone)
	}
	for _, name := range []string{"x", "y", "s", "t"} {
		drops(t, r, name, impl.RegHeld)
	}
	drops(t, r, "last", impl.RegDone)
	for n := 58; n <= 61; n++ {
		code := [4]int{impl.RegDone, impl.RegDone, impl.RegMany, impl.RegBad}[n-58]
		drops(t, impl.Reg{Sigs: r.Sigs, Gone: numbered("g", n)}, "last", code)
		drops(t, impl.Reg{Sigs: sourcesOnly(16).Sigs, Gone: numbered("g", n)}, "s07", code)
	}
	// what is made known inside a body is no input
	drops(t, regOf("x; y; s = let x = y in x", ""), "x", impl.RegDone)
	drops(t, regOf("x; y; s = rep y as x from y by x", ""), "x", impl.RegDone)
	drops(t, regOf("x; y; s = (let x = y in x) + x", ""), "x", impl.RegHeld)
	drops(t, regOf("x; y; s = 0 and x", ""), "x", impl.RegHeld)
}

func TestTheOrderOfRefusalsOfSignalsThatGo(t *testing.T) {
	r := impl.Reg{Sigs: regOf(fewLines, "").Sigs, Gone: numbered("g", 60)}
	for _, c := range []struct {
		name  string
		codes []int
	}{
		{"q", []int{impl.RegNone, impl.RegMany}}, {"g00", []int{impl.RegNone, impl.RegMany}}, {"", []int{impl.RegNone, impl.RegMany}}, {"X", []int{impl.RegNone, impl.RegMany}},
		{"x", []int{impl.RegHeld, impl.RegMany}}, {"y", []int{impl.RegHeld, impl.RegMany}}, {"s", []int{impl.RegHeld, impl.RegMany}}, {"t", []int{impl.RegMany}},
	} {
		if codes := dropCodes(r, c.name); !slices.Equal(codes, c.codes) {
			t.Errorf("%q: %v hold", c.name, codes)
		}
		drops(t, r, c.name, c.codes[0])
		for _, bad := range []impl.Reg{{Sigs: append(slices.Clone(r.Sigs), sig("x")), Gone: r.Gone}, {Sigs: r.Sigs, Gone: numbered("g", 61)}, {Sigs: r.Sigs, Gone: append(slices.Clone(r.Gone[:59]), "x")}} {
			drops(t, bad, c.name, impl.RegBad)
		}
	}
}

// anySig is a signal that may come, or may not.
func anySig(r *rand.Rand, reg impl.Reg) impl.Sig {
	names := append(sigNames(reg), "x")
	s := impl.Sig{Name: regNames[r.Intn(len(regNames))], Home: r.Intn(5)}
	if len(reg.Gone) > 0 && r.Intn(6) == 0 {
		s.Name = reg.Gone[r.Intn(len(reg.Gone))]
	}
	switch r.Intn(12) {
	case 0, 1, 2, 3, 4, 5:
		s.Body = randomBody(r, lastOf(names, 4))
	case 6:
		s.Body = randomBody(r, regNames)
	case 7:
		s.Body = randomBody(r, append(names, s.Name))
	case 8:
		s.Body = bentBody(r, randomBody(r, names))
	case 9:
		s.Name = []string{"", "X", "or", "abcdefghi", "a-b"}[r.Intn(5)]
	case 10:
		s.Home = []int{-1, 5}[r.Intn(2)]
	}
	return s
}

func TestChangesAgainstModel(t *testing.T) {
	r := rand.New(rand.NewSource(252))
	added, dropped := [8]int{}, [8]int{}
	for n := range 120 {
		reg := randomReg(r, r.Intn(17))
		switch n % 4 {
		case 0:
			reg.Gone = numbered("g", 55+r.Intn(6))
		case 1:
			reg = randomReg(r, 16)
		}
		for range 30 {
			s := anySig(r, reg)
			_, code := modelAdd(reg, s)
			then := adds(t, reg, s, code)
			added[code]++
			if code != impl.RegBad {
				reg = then
			}
			if n%4 == 1 && r.Intn(5) > 0 {
				continue
			}
			name := append(sigNames(reg), regNames...)[r.Intn(len(reg.Sigs)+3)]
			_, code = modelDrop(reg, name)
			reg = drops(t, reg, name, code)
			dropped[code]++
		}
		bad := turnedReg(r, 1+r.Intn(16))
		s := anySig(r, bad)
		_, code := modelAdd(bad, s)
		adds(t, bad, s, code)
		name := regNames[r.Intn(len(regNames))]
		_, code = modelDrop(bad, name)
		drops(t, bad, name, code)
		dropped[code]++
	}
	if slices.Min(added[:impl.RegMany+1]) < 20 || min(dropped[impl.RegDone], dropped[impl.RegBad], dropped[impl.RegNone], dropped[impl.RegHeld], dropped[impl.RegMany]) < 50 {
		t.Fatal(added, dropped)
	}
}
