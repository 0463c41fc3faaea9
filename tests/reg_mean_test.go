package tests

import (
	"math/rand"
	"slices"
	"strconv"
	"strings"
	"testing"

	"loop.example/headrace/impl"
)

// regMeans holds RegMean against the model and what is told.
func regMeans(t *testing.T, r impl.Reg, vals []impl.Bind, name string, want int, wantOk bool) {
	t.Helper()
	val, ok := impl.RegMean(r, vals, name)
	modelled, modelOk := modelRegMean(r, vals, name)
	if val != want || ok != wantOk || modelled != want || modelOk != wantOk {
		t.Errorf("%q of %+v with %v: %d %v, the model %d %v, not %d %v", name, r, vals, val, ok, modelled, modelOk, want, wantOk)
	}
}

// vals are values by a text: names, `:` and a number, with blanks between.
func vals(text string) []impl.Bind {
	var b []impl.Bind
	for word := range strings.FieldsSeq(text) {
		name, num, _ := strings.Cut(word, ":")
		val, _ := strconv.Atoi(num)
		b = append(b, impl.Bind{Name: name, Val: val})
	}
	return b
}

func TestWhatSignalsMean(t *testing.T) {
	r := regOf("x; y@1; s@1 = x + y * 2; t@2 = if s > x then s else 0; u = s * 100 + t; v = u - t - s + x; w = let x = t in x * x + y; free", "q")
	for text, want := range map[string]string{
		"x:5 y:3":                         "x:5 y:3 s:11 t:11 u:1111 v:1094 w:124",
		"y:3 x:5":                         "x:5 y:3 s:11 t:11 u:1111 v:1094 w:124",
		"x:5 y:-3":                        "x:5 y:-3 s:-1 t:0 u:-100 v:-94 w:-3",
		"x:0 y:0":                         "x:0 y:0 s:0 t:0 u:0 v:0 w:0",
		"x:0 y:0 free:7":                  "x:0 y:0 s:0 t:0 u:0 v:0 w:0 free:7",
		"free:-7":                         "free:-7",
		"x:5":                             "x:5",
		"y:3 free:1":                      "y:3 free:1",
		"":                                "",
		"s:9 t:8 u:7":                     "",
		"x:5 s:9 t:8":                     "x:5",
		"x:5 y:3 s:9 t:8 u:1 v:2 w:3":     "x:5 y:3 s:11 t:11 u:1111 v:1094 w:124",
		"x:5 y:3 q:1 other:2 z:3 p:4 o:5": "x:5 y:3 s:11 t:11 u:1111 v:1094 w:124",
		"t:8 y:3 u:2 x:5 new:1":           "x:5 y:3 s:11 t:11 u:1111 v:1094 w:124",
	} {
		mean := values{}
		for _, b := range vals(want) {
			mean[b.Name] = b.Val
		}
		for _, name := range append(sigNames(r), "q", "other", "z", "new", "", "X", "if") {
			val, ok := mean[name]
			regMeans(t, r, vals(text), name, val, ok)
		}
	}
	for _, x := range edgeNums {
		for _, y := range edgeNums {
			b := []impl.Bind{{Name: "x", Val: x}, {Name: "y", Val: y}}
			regMeans(t, r, b, "x", x, true)
			regMeans(t, r, b, "y", y, true)
			regMeans(t, r, b, "s", x+y*2, true)
		}
	}
}

// All sources that go into a signal must have a value, also where no step comes to them.
func TestSourcesWithoutValues(t *testing.T) {
	for _, body := range []string{"x + y", "0 and y or x", "x or y", "if 1 then x else y", "rep 0 as s from x by y", "let z = y in x", "x + 0 * y"} {
		r := regOf("x; y; z; a = "+body+"; b = a; c = 1 or b; d = x", "")
		for _, name := range []string{"a", "b", "c"} {
			regMeans(t, r, vals("x:1"), name, 0, false)
			regMeans(t, r, vals("y:1"), name, 0, false)
			regMeans(t, r, vals("x:1 z:1"), name, 0, false)
			regMeans(t, r, vals("x:1 a:1 b:1 c:1"), name, 0, false)
			if _, ok := impl.RegMean(r, vals("x:1 y:1"), name); !ok {
				t.Errorf("%q: %q", body, name)
			}
		}
		regMeans(t, r, vals("x:4"), "d", 4, true)
		regMeans(t, r, vals("x:4"), "x", 4, true)
		regMeans(t, r, vals("x:4"), "y", 0, false)
	}
	r := layered(12)
	for at := range 12 {
		b := bound(numbered("s", 12)...)
		sum := 0
		for _, bind := range b {
			sum += bind.Val
		}
		regMeans(t, r, b, "t3", sum, true)
		regMeans(t, r, slices.Delete(b, at, at+1), "t3", 0, false)
	}
}

const spentBody = "x + (rep 64 as i from 0 by rep 64 as j from 0 by rep 64 as k from 0 by 1)"

func TestBodiesThatAreSpent(t *testing.T) {
	r := regOf("x; y; s = "+spentBody+"; a = s + 7; b = s * y + a; c = if s then 1 else 2; again = s + ("+spentBody+"); d = again + y; e = 1 or s", "")
	for name, want := range map[string]int{"s": 0, "a": 7, "b": 7, "c": 2, "again": 0, "d": 3, "e": 1, "x": 5} {
		regMeans(t, r, vals("x:5 y:3"), name, want, true)
		regMeans(t, r, vals("y:3 s:9 again:9"), name, 0, false)
	}
}

// Just as many steps as there are, and one more; the signal behind it leans on 0 then.
func TestBodiesThatAreNearlySpent(t *testing.T) {
	const odd = "(rep 64 as i from 0 by rep 44 as j from 1 by -(j + 1 + 1)) * 0 + (rep y as k from 5 by k)"
	for _, c := range []struct {
		body string
		y    int
		want meant
	}{
		{odd, 10, done(5, impl.MeanMaxSteps-3)}, {odd, 11, done(5, impl.MeanMaxSteps-1)}, {odd, 12, lacking}, {"-(" + odd + ")", 11, done(-5, impl.MeanMaxSteps)}, {"-(" + odd + ")", 12, lacking},
	} {
		b := []impl.Bind{{Name: "y", Val: c.y}}
		textMeans(t, c.body, b, c.want)
		r := regOf("y; s = "+c.body+"; t = s + 100", "")
		regMeans(t, r, b, "s", c.want.val, true)
		regMeans(t, r, b, "t", c.want.val+100, true)
	}
}

func TestMeaningsWithValuesThatAreNotOk(t *testing.T) {
	r := regOf("x; y; s = x; t = s + y", "")
	for _, name := range []string{"x", "y", "s", "t", "q", ""} {
		for _, bad := range noNames {
			regMeans(t, r, append(vals("x:1 y:2"), impl.Bind{Name: bad}), name, 0, false)
			regMeans(t, r, append([]impl.Bind{{Name: bad}}, vals("x:1 y:2")...), name, 0, false)
		}
		for _, text := range []string{"x:1 y:2 x:1", "x:1 y:2 x:3", "x:1 y:2 q:3 q:3", "x:1 y:2 s:3 s:3"} {
			regMeans(t, r, vals(text), name, 0, false)
		}
		for n := 36; n <= 42; n++ {
			b := append(manyBinds(n-2), vals("x:1 y:2")...)
			want, ok := map[string]int{"x": 1, "y": 2, "s": 1, "t": 3}[name]
			if n > 40 {
				want, ok = 0, false
			}
			regMeans(t, r, b, name, want, ok)
		}
	}
}

func TestMeaningsOfRegistersThatAreNotOk(t *testing.T) {
	for _, r := range []impl.Reg{regOf("x; x", ""), regOf("s = x; x", ""), regOf("x; s = 7", ""), regOf("x", "x"), regOf("x", "b a"), regOf("x@5", ""), regOf("x; X", ""), sourcesOnly(17), {Sigs: sourcesOnly(3).Sigs, Gone: numbered("g", 61)}} {
		for _, name := range append(sigNames(r), "x", "a") {
			regMeans(t, r, vals("x:1 s:2 s00:3 s01:4"), name, 0, false)
			regMeans(t, r, nil, name, 0, false)
		}
	}
	regMeans(t, impl.Reg{}, vals("x:1"), "x", 0, false)
	regMeans(t, impl.Reg{}, nil, "", 0, false)
	regMeans(t, regOf("", "x"), vals("x:1"), "x", 0, false)
}

// More than ten thousand ways lead from the last signal to the source, and each body takes most of the steps that it may: whoever went all ways would not come to an end soon.
func TestMeaningsOfTangledRegisters(t *testing.T) {
	const slow = "0 * (rep 64 as p from 0 by rep 64 as q from p by q + 1) + "
	r := tangled(16, slow)
	regOk(t, r, true)
	for _, val := range []int{0, 1, -7, most, least} {
		want := []int{val}
		for range 15 {
			sum := 0
			for _, n := range lastOf(want, 4) {
				sum += n
			}
			want = append(want, sum)
		}
		b := []impl.Bind{{Name: "v00", Val: val}}
		for i, name := range sigNames(r) {
			if got, ok := impl.RegMean(r, b, name); got != want[i] || !ok {
				t.Errorf("%q with %d: %d %v, not %d", name, val, got, ok, want[i])
			}
		}
		if got, ok := impl.RegMean(r, vals("v01:1"), "v15"); ok || got != 0 {
			t.Error(got, ok)
		}
	}
	one, _ := impl.TreeRead(slow + "v00")
	notMuchLonger(t, "RegMean", 6, func() { impl.RegMean(r, vals("v00:3"), "v15") }, func() {
		for range 15 {
			impl.MeanOf(one, vals("v00:3"))
		}
	})
}

// randomVals are values of most sources of a register, of some other signals, and of others.
func randomVals(r *rand.Rand, reg impl.Reg) []impl.Bind {
	var b []impl.Bind
	for _, s := range reg.Sigs {
		if s.Body == "" && r.Intn(8) > 0 || s.Body != "" && r.Intn(4) == 0 {
			b = append(b, impl.Bind{Name: s.Name, Val: edgeNums[r.Intn(len(edgeNums))]})
		}
	}
	for _, name := range []string{"nix", "other"} {
		if r.Intn(3) == 0 {
			b = append(b, impl.Bind{Name: name, Val: r.Intn(9)})
		}
	}
	return shuffled(r, b)
}

func TestMeaningsOfRegistersAgainstModel(t *testing.T) {
	r := rand.New(rand.NewSource(253))
	seen := [2]int{}
	for n := range 400 {
		reg := randomReg(r, 1+r.Intn(16))
		if n%8 == 0 {
			reg = turnedReg(r, 1+r.Intn(16))
		}
		b := randomVals(r, reg)
		if n%16 == 1 {
			b = append(b, impl.Bind{Name: []string{"X", "if", "a", "b", "x"}[r.Intn(5)]})
		}
		ok, all := modelRegOk(reg) && modelBinds(b), modelMeanings(reg, b)
		for _, name := range append(sigNames(reg), "nix", "other", "X") {
			val, there := all[name]
			if !ok || !there {
				val, there = 0, false
			}
			seen[oneIf(there)]++
			if got, gotOk := impl.RegMean(reg, b, name); got != val || gotOk != there {
				t.Fatalf("%q of %+v with %v: %d %v, not %d %v", name, reg, b, got, gotOk, val, there)
			}
		}
	}
	if slices.Min(seen[:]) < 800 {
		t.Fatal(seen)
	}
}
