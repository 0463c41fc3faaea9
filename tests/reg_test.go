package tests

import (
	"fmt"
	"math/rand"
	"slices"
	"strings"
	"testing"
	"time"

	"loop.example/headrace/impl"
)

// otherNames are names and texts that mostly are in no register.
var otherNames = append([]string{"nix", "a0", "abcdefg", "x ", "s100"}, noNames...)

// regOk holds RegOk, and all that is told of a register's names and some others, against the model and what is told.
func regOk(t *testing.T, r impl.Reg, want bool) {
	t.Helper()
	toldOf(t, r, want, otherNames)
}

func toldOf(t *testing.T, r impl.Reg, want bool, others []string) {
	t.Helper()
	if impl.RegOk(r) != want || modelRegOk(r) != want {
		t.Errorf("%+v: %v, the model %v", r, impl.RegOk(r), modelRegOk(r))
	}
	for _, name := range slices.Concat(sigNames(r), r.Gone, others) {
		at, sources, depth := impl.RegAt(r, name), impl.RegSources(r, name), impl.RegDepth(r, name)
		if at != modelAt(r, name) || !slices.Equal(sources, modelSources(r, name)) || depth != modelDepth(r, name) {
			t.Errorf("%q of %+v: at %d, %q, depth %d, not at %d, %q, depth %d", name, r, at, sources, depth, modelAt(r, name), modelSources(r, name), modelDepth(r, name))
		}
		if (at == -1) != (depth == -1) || (at == -1) != (len(sources) == 0) || !want && at != -1 {
			t.Errorf("%q of %+v: at %d, %q, depth %d", name, r, at, sources, depth)
		}
	}
	if !want {
		nothingOf(t, r)
	}
}

// nothingOf: a register that is not ok takes nothing, leaves nothing, and nothing of it means anything.
func nothingOf(t *testing.T, r impl.Reg) {
	t.Helper()
	vals := []impl.Bind{{Name: "x", Val: 1}}
	for _, name := range append(sigNames(r), "x", "new", "X", "") {
		if then, code := impl.RegAdd(r, impl.Sig{Name: name}); code != impl.RegBad || !sameReg(then, impl.Reg{}) {
			t.Errorf("%q to %+v: %+v %d", name, r, then, code)
		}
		if then, code := impl.RegDrop(r, name); code != impl.RegBad || !sameReg(then, impl.Reg{}) {
			t.Errorf("%q from %+v: %+v %d", name, r, then, code)
		}
		if val, ok := impl.RegMean(r, vals, name); ok || val != 0 {
			t.Errorf("%q of %+v: %d %v", name, r, val, ok)
		}
	}
}

func TestRegistersThatMayBe(t *testing.T) {
	for _, r := range []impl.Reg{
		{}, {Sigs: []impl.Sig{}, Gone: []string{}}, regOf("x", ""), regOf("", "x"), regOf("x@4", "a b"), regOf("x; y; z", ""), regOf("z; y; x", "w"), regOf("x; s@1 = x; t@2 = s; u@3 = t", ""),
		regOf("x; y@1; s@1 = x + y * 2; t@2 = if s > x then s else 0", "q"), regOf("b; a; c = a + b; d = let x = c in x + a", "x"), regOf("x; s = let s = x in s", "a ab abc b"), regOf("x; s = rep 3 as t from x by t; t = s", ""),
		regOf("a; b; c; d; e = a + b + c + d; f = e + d + c + b", ""), regOf("x; s = x + x; t = s - s", "a1 aa"), layered(12), tangled(16, ""),
	} {
		regOk(t, r, true)
	}
}

func TestHowManySignals(t *testing.T) {
	for n := range 20 {
		regOk(t, sourcesOnly(n), n <= 16)
		if n > 0 {
			regOk(t, tangled(n, ""), n <= 16)
		}
	}
	regOk(t, sourcesOnly(99), false)
	many := impl.Reg{Sigs: make([]impl.Sig, 1000000), Gone: make([]string, 1000000)}
	if impl.RegOk(many) || impl.RegAt(many, "") != -1 {
		t.Error("very many")
	}
}

func TestRegistersWithASignalThatIsNotOk(t *testing.T) {
	for at := range 4 {
		for _, bad := range []string{"X", "", "if", "a-b", "abcdefghi", "q@5", "q@-1", "q = 7", "q = x +", "q = a1 + a2 + a3 + a4 + a5", "q = let x = 1 in x", "q =  "} {
			r := regOf("x; y; s = x", "")
			r.Sigs = slices.Insert(r.Sigs, at, sig(bad))
			regOk(t, r, false)
		}
	}
}

func TestNamesThatAreAlike(t *testing.T) {
	for i := range 16 {
		for j := range i {
			r := sourcesOnly(16)
			r.Sigs[i].Name = r.Sigs[j].Name
			toldOf(t, r, false, nil)
			r.Sigs[i] = r.Sigs[j]
			toldOf(t, r, false, nil)
		}
	}
	regOk(t, regOf("x; x = x", ""), false)
	regOk(t, regOf("x; y; x@1", ""), false)
	regOk(t, regOf("x; y; y = x", ""), false)
}

func TestWhereInputsStand(t *testing.T) {
	for _, lines := range []string{
		"s = x", "s = s", "s = x; x", "x; s = s", "x; s = x + s", "x; s = x + y", "x; s = x + y; y", "s = t; t = s", "x; s = x + t; t = x + s", "x; y; s = t; t = x", "x; s = x; t = s + u; u = t", "x; y; z; s = x + y + z + w", "x; s = xx", "xx; s = x", "x; s = let x = y in x", "x; s = 0 and y", "x; s = x or s",
	} {
		regOk(t, regOf(lines, ""), false)
		regOk(t, regOf(lines, "a y2"), false)
	}
	regOk(t, regOf("x; s = x + y", "y"), false)
	// each order of signals that lean on each other: just those in which all come behind their inputs
	lines := strings.Split("x; y; s = x + y; t = s + x; u = t - s", "; ")
	well := 0
	for _, order := range orders(len(lines)) {
		var turned []string
		for _, at := range order {
			turned = append(turned, lines[at])
		}
		place := func(at int) int { return slices.Index(order, at) }
		want := max(place(0), place(1)) < place(2) && place(2) < place(3) && place(3) < place(4)
		well += oneIf(want)
		regOk(t, regOf(strings.Join(turned, "; "), ""), want)
	}
	if well != 2 {
		t.Fatal(well)
	}
}

// orders are all orders of so many.
func orders(n int) [][]int {
	if n == 0 {
		return [][]int{nil}
	}
	var all [][]int
	for _, less := range orders(n - 1) {
		for at := range n {
			all = append(all, slices.Insert(slices.Clone(less), at, n-1))
		}
	}
	return all
}

// Thirteen sources cannot go into a signal of a register that has no more signals than it may: four more are needed to lead them there.
func TestHowManySources(t *testing.T) {
	for n := 1; n <= 14; n++ {
		r := layered(n)
		regOk(t, r, n <= 12)
		if sources := impl.RegSources(r, r.Sigs[len(r.Sigs)-1].Name); n <= 12 && !slices.Equal(sources, numbered("s", n)) {
			t.Errorf("%d: %q", n, sources)
		}
		if n == 13 && len(r.Sigs) != 17 {
			t.Fatal(len(r.Sigs))
		}
	}
}

func TestNamesThatAreNoMore(t *testing.T) {
	for _, gone := range []string{"a", "a b", "a aa ab b", "a a1 a2 aa", "z", "xx", "w y", "iff nott", "abcdefgh b"} {
		regOk(t, regOf("x", gone), true)
		regOk(t, regOf("x; s = x", gone), true)
	}
	for _, gone := range []string{"x", "a x", "x y", "b a", "a a", "aa a", "a aa a", "a1 a", "aa a1", "a b b", "a b a", "a b c e d", "A", "a B", "if", "a if", "a then", "a-b", "-", "0", "1a", "abcdefghi", "ä", "a_", "a b c x y"} {
		regOk(t, regOf("x; s = x", gone), false)
	}
	regOk(t, regOf("x; s = x", "s"), false)
	regOk(t, regOf("", "b a"), false)
	for _, name := range noNames {
		for at := range 3 {
			r := impl.Reg{Gone: []string{"b", "c"}}
			r.Gone = slices.Insert(r.Gone, at, name)
			regOk(t, r, false)
		}
		regOk(t, impl.Reg{Gone: []string{name}}, false)
	}
	for _, n := range []int{0, 1, 59, 60, 61, 62, 99} {
		regOk(t, impl.Reg{Gone: numbered("g", n)}, n <= 60)
		regOk(t, impl.Reg{Sigs: sourcesOnly(16).Sigs, Gone: numbered("g", n)}, n <= 60)
		regOk(t, impl.Reg{Sigs: sourcesOnly(16).Sigs, Gone: numbered("s", n)}, n == 0)
	}
	for i := range 60 {
		for _, j := range []int{0, i / 2, i - 1} {
			r := impl.Reg{Gone: numbered("g", 60)}
			if j >= 0 && j < i {
				r.Gone[i], r.Gone[j] = r.Gone[j], r.Gone[i]
				toldOf(t, r, false, nil)
				r.Gone[i] = r.Gone[j]
				toldOf(t, r, false, nil)
			}
		}
	}
}

func TestWhatIsToldOfNames(t *testing.T) {
	r := regOf("y; x@1; b2 = y; s@2 = x + y; t = s; a = t + x; c = b2 + b2; last = a + c + y; only = x; nott", "gone gone1")
	regOk(t, r, true)
	for name, want := range map[string]struct {
		at      int
		sources string
		depth   int
	}{
		"y": {0, "y", 0}, "x": {1, "x", 0}, "b2": {2, "y", 1}, "s": {3, "x y", 1}, "t": {4, "x y", 2}, "a": {5, "x y", 3}, "c": {6, "y", 2}, "last": {7, "x y", 4}, "only": {8, "x", 1}, "nott": {9, "nott", 0},
		"gone": {-1, "", -1}, "gone1": {-1, "", -1}, "q": {-1, "", -1}, "b": {-1, "", -1}, "xx": {-1, "", -1}, "": {-1, "", -1}, "X": {-1, "", -1}, "if": {-1, "", -1}, "x ": {-1, "", -1}, "x\x00": {-1, "", -1},
	} {
		at, sources, depth := impl.RegAt(r, name), impl.RegSources(r, name), impl.RegDepth(r, name)
		if at != want.at || !slices.Equal(sources, strings.Fields(want.sources)) || depth != want.depth {
			t.Errorf("%q: at %d, %q, depth %d", name, at, sources, depth)
		}
	}
	// a deeper input may stand ahead of, or behind, one that is less deep
	for lines, depth := range map[string]int{"x; a = x; b = a; c = b; d = c + x": 4, "x; y; a = x; b = a; z = b + y": 3, "a; b = a; c = b; z = a + c": 3, "z; y = z; x = y; a = x + z": 3} {
		r := regOf(lines, "")
		if got := impl.RegDepth(r, r.Sigs[len(r.Sigs)-1].Name); got != depth {
			t.Errorf("%q: %d", lines, got)
		}
	}
}

func TestRegistersAgainstModel(t *testing.T) {
	r := rand.New(rand.NewSource(251))
	seen := [2]int{}
	deepest := 0
	for range 500 {
		others := []string{otherNames[r.Intn(len(otherNames))], regNames[r.Intn(len(regNames))]}
		reg := randomReg(r, 1+r.Intn(16))
		toldOf(t, reg, true, others)
		for _, name := range sigNames(reg) {
			deepest = max(deepest, impl.RegDepth(reg, name))
		}
		reg = turnedReg(r, 1+r.Intn(16))
		seen[oneIf(modelRegOk(reg))]++
		toldOf(t, reg, modelRegOk(reg), others)
	}
	if slices.Min(seen[:]) < 120 || deepest < 8 {
		t.Fatal(seen, deepest)
	}
}

// quickest is the least time of several that a call takes.
func quickest(call func()) time.Duration {
	least := time.Hour
	for range 7 {
		start := time.Now()
		call()
		least = min(least, time.Since(start))
	}
	return least
}

// notMuchLonger tells whether a call is not many times as long as another one; it tries again, as others may be at work beside it.
func notMuchLonger(t *testing.T, why string, times int, call, other func()) {
	t.Helper()
	told := ""
	for range 5 {
		took, may := quickest(call), time.Duration(times)*quickest(other)
		if took <= may {
			return
		}
		told += fmt.Sprintf(" %v, not %v;", took, may)
	}
	t.Errorf("%s:%s", why, told)
}

// More than ten thousand ways lead from the last signal of a tangled register to its source, and as many names are told as of another one.
func TestTangledRegisters(t *testing.T) {
	r, plain := tangled(16, ""), sourcesOnly(4)
	for i := 4; i < 16; i++ {
		plain.Sigs = append(plain.Sigs, sig(fmt.Sprintf("w%02d = s00 + s01 + s02 + s03", i)))
	}
	regOk(t, r, true)
	regOk(t, plain, true)
	for i, name := range sigNames(r) {
		if at, sources, depth := impl.RegAt(r, name), impl.RegSources(r, name), impl.RegDepth(r, name); at != i || !slices.Equal(sources, []string{"v00"}) || depth != i {
			t.Errorf("%q: at %d, %q, depth %d", name, at, sources, depth)
		}
	}
	last := func(r impl.Reg) string { return r.Sigs[15].Name }
	notMuchLonger(t, "RegOk", 5, func() { impl.RegOk(r) }, func() { impl.RegOk(plain) })
	notMuchLonger(t, "RegAt", 5, func() { impl.RegAt(r, last(r)) }, func() { impl.RegAt(plain, last(plain)) })
	notMuchLonger(t, "RegSources", 5, func() { impl.RegSources(r, last(r)) }, func() { impl.RegSources(plain, last(plain)) })
	notMuchLonger(t, "RegDepth", 5, func() { impl.RegDepth(r, last(r)) }, func() { impl.RegDepth(plain, last(plain)) })
}
