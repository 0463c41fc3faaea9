package tests

import (
	"math/rand"
	"slices"
	"strings"
	"testing"

	"loop.example/headrace/impl"
)

// meant is what a reckoning comes to.
type meant struct{ val, steps, code int }

func meanOf(l []impl.Node, b []impl.Bind) meant {
	val, steps, code := impl.MeanOf(l, b)
	return meant{val, steps, code}
}

func means(t *testing.T, l []impl.Node, b []impl.Bind, want meant) {
	t.Helper()
	if got := meanOf(l, b); got != want {
		t.Fatalf("%q with %v: %v, not %v", impl.TreeShow(l), b, got, want)
	}
}

func tree(t *testing.T, text string) []impl.Node {
	t.Helper()
	l, f := impl.TreeRead(text)
	if f.Code != 0 {
		t.Fatal(text, f)
	}
	return l
}

func textMeans(t *testing.T, text string, b []impl.Bind, want meant) {
	t.Helper()
	means(t, tree(t, text), b, want)
}

var (
	someBinds = []impl.Bind{{Name: "x", Val: 5}, {Name: "y", Val: -3}, {Name: "z1", Val: 0}, {Name: "lo", Val: least}, {Name: "hi", Val: most}}
	wrong     = meant{0, 0, impl.MeanBad}
	asks      = meant{0, 0, impl.MeanFree}
	endless   = "(rep 64 as u from 0 by rep 64 as v from 0 by rep 64 as w from 0 by 0)"
)

func done(val, steps int) meant { return meant{val, steps, impl.MeanDone} }

var lacking = meant{0, impl.MeanMaxSteps, impl.MeanSpent}

var noTrees = [][]impl.Node{nil, {}, {{}}, num(-1), num(greatest + 1), name("or"), name(""), negs(40, num(1)), wide(401), kind(24), kind(impl.NodeAdd, num(1)), slices.Concat(num(1), num(2)), kind(impl.NodeIf, num(1), num(2)), named(impl.NodeLet, "if", num(1), num(2)), named(impl.NodeRep, "", num(1), num(2), num(3)), {{Kind: impl.NodeNum, Num: 3, Name: "x"}}, {{Kind: impl.NodeName, Num: 3, Name: "x"}}, {{Kind: impl.NodeNum, Kids: 1}, {Kind: impl.NodeNum}}}

func TestMeaningsOfListsThatAreNoTrees(t *testing.T) {
	for _, l := range noTrees {
		means(t, l, someBinds, wrong)
		means(t, l, nil, wrong)
		means(t, l, bound("x", "x"), wrong)
		if len(l) > 0 {
			means(t, kind(impl.NodeAdd, name("q"), l), nil, wrong)
			means(t, kind(impl.NodeAnd, num(0), l), nil, wrong)
		}
	}
}

func TestMeaningsWithBindsThatAreNotOk(t *testing.T) {
	var lists [][]impl.Bind
	for _, s := range noNames {
		lists = append(lists, bound(s), bound("x", s), bound(s, "x"))
	}
	lists = append(lists, manyBinds(41), bound("x", "x"), bound("a", "x", "b", "x"), append(manyBinds(40), impl.Bind{Name: "x"}))
	for _, b := range lists {
		textMeans(t, "1", b, wrong)
		textMeans(t, "x", b, wrong)
		textMeans(t, "q", b, wrong)
		textMeans(t, endless, b, wrong)
		means(t, nil, b, wrong)
	}
	textMeans(t, "n0 + n39", manyBinds(40), done(39*39-6, 3))
}

func TestNamesWithoutBinds(t *testing.T) {
	for _, text := range []string{"q", "-q", "not q", "q + 1", "1 + q", "min(1, q)", "abs(q)", "0 and q", "1 or q", "q and 0", "q or 1", "if 1 then 2 else q", "if 0 then q else 2", "if q then 1 else 2", "let q = q in 1", "let a = 1 in q", "let a = q in 1", "(let q = 1 in q) + q", "rep 0 as s from 1 by q", "rep q as s from 1 by s", "rep 1 as s from q by s", "rep 0 as q from q by q", "rep q as q from 1 by q", "rep 0 - 5 as s from 1 by q", "0 and (0 and (0 and q))", "q + " + endless, endless + " + q", endless + " and q", "x + y + q", "let x = 1 in q"} {
		textMeans(t, text, someBinds, asks)
		textMeans(t, text, nil, asks)
		textMeans(t, text, bound("qq", "p", "q1", "s", "a"), asks)
		textMeans(t, text, bound("q", "Q"), wrong)
		textMeans(t, text, bound("p", "p"), wrong)
		if got := meanOf(tree(t, text), append(slices.Clone(someBinds), impl.Bind{Name: "q", Val: 2})); got.code != impl.MeanDone && got != lacking {
			t.Fatalf("%q: %v", text, got)
		}
	}
	textMeans(t, "let q = 1 in q", nil, done(1, 3))
	textMeans(t, "rep 2 as q from 1 by q", nil, done(1, 7))
}

func TestValues(t *testing.T) {
	for _, c := range []struct {
		text       string
		val, steps int
	}{
		{"0", 0, 1}, {"999999999999999999", greatest, 1}, {"x", 5, 1}, {"lo", least, 1}, {"hi", most, 1},
		{"-x", -5, 2}, {"--x", 5, 3}, {"-lo", least, 2}, {"not x", 0, 2}, {"not z1", 1, 2}, {"not not y", 1, 3}, {"abs(y)", 3, 2}, {"abs(lo)", least, 2},
		{"x * y", -15, 3}, {"x / y", -1, 3}, {"x % y", 2, 3}, {"y % x", -3, 3}, {"x + y", 2, 3}, {"x - y", 8, 3}, {"hi + 1", least, 3}, {"lo - 1", most, 3}, {"hi * hi", 1, 3}, {"lo / -1", least, 4}, {"lo % -1", 0, 4}, {"x / z1", 0, 3}, {"x % z1", 0, 3},
		{"x = y", 0, 3}, {"x != y", 1, 3}, {"x < y", 0, 3}, {"x <= y", 0, 3}, {"x > y", 1, 3}, {"x >= y", 1, 3}, {"min(x, y)", -3, 3}, {"max(x, y)", 5, 3},
		{"x and y", 1, 3}, {"x and z1", 0, 3}, {"z1 and x", 0, 2}, {"z1 or x", 1, 3}, {"z1 or 0", 0, 3}, {"x or y", 1, 2}, {"y or x", 1, 2}, {"y and y", 1, 3}, {"x and 7 * 3", 1, 5}, {"z1 or 7 * 3", 1, 5},
		{"if x then 1 else 2", 1, 3}, {"if y then 1 else 2", 1, 3}, {"if z1 then 1 else 2", 2, 3}, {"if x = 5 then y else lo", -3, 5}, {"if 0 then 1 else if 0 then 2 else 3", 3, 5},
		{"let a = x in a * a", 25, 5}, {"let a = x + 1 in 7", 7, 5}, {"10 - 3 - 2", 5, 5}, {"7 - 2 * 3", 1, 5}, {"(7 - 2) * 3", 15, 5},
		{"x - (let x = 7 in x) - x", -7, 7},
	} {
		textMeans(t, c.text, someBinds, done(c.val, c.steps))
	}
}

func TestRounds(t *testing.T) {
	for _, c := range []struct {
		times       string
		own, rounds int
	}{
		{"0", 1, 0}, {"1", 1, 1}, {"2", 1, 2}, {"63", 1, 63}, {"64", 1, 64}, {"65", 1, 64}, {"128", 1, 64}, {"999999999999999999", 1, 64}, {"hi", 1, 64}, {"y", 1, 0}, {"lo", 1, 0}, {"-1", 2, 0}, {"lo + 64", 3, 0}, {"hi + 1", 3, 0}, {"x + y", 3, 2}, {"not z1", 2, 1},
	} {
		textMeans(t, "rep "+c.times+" as s from 100 by s + 1", someBinds, done(100+c.rounds, 2+c.own+4*c.rounds))
		textMeans(t, "rep "+c.times+" as s from 100 by 8", someBinds, done([]int{100, 8}[oneIf(c.rounds > 0)], 2+c.own+2*c.rounds))
		textMeans(t, "rep "+c.times+" as s from 1 by -s", someBinds, done(1-2*(c.rounds%2), 2+c.own+3*c.rounds))
	}
	// What the rounds do to a name leaves their number as it was.
	textMeans(t, "rep x as x from 1 by x * 2", someBinds, done(32, 3+5*4))
	textMeans(t, "let n = 3 in rep n as s from 0 by let n = 60 in s + n", nil, done(180, 2+3+3*6))
	textMeans(t, "rep rep 2 as a from 1 by a + a as b from rep 3 as c from 0 by c + 1 by b - 10", nil, done(3-40, 1+11+15+4*4))
}

func TestKidsThatAreNotReckoned(t *testing.T) {
	for _, c := range []struct {
		text string
		want meant
	}{
		{"0 and " + endless, done(0, 2)}, {"1 or " + endless, done(1, 2)}, {"-1 or " + endless, done(1, 3)}, {"lo or " + endless, done(1, 2)},
		{"1 and " + endless, lacking}, {"0 or " + endless, lacking}, {endless + " and 0", lacking}, {endless + " or 1", lacking},
		{"if 1 then 7 else " + endless, done(7, 3)}, {"if -1 then 7 else " + endless, done(7, 4)}, {"if 0 then " + endless + " else 8", done(8, 3)},
		{"if 0 then 7 else " + endless, lacking}, {"if 1 then " + endless + " else 8", lacking}, {"if " + endless + " then 1 else 2", lacking},
		{"rep 0 as s from 9 by " + endless, done(9, 3)}, {"rep y as s from 9 by " + endless, done(9, 3)}, {"rep 1 as s from 9 by " + endless, lacking}, {"rep 0 as s from " + endless + " by 1", lacking},
		{"let a = " + endless + " in 1", lacking}, {"let a = 1 in " + endless, lacking}, {"0 * " + endless, lacking}, {"-" + endless, lacking}, {"min(1, " + endless + ")", lacking},
		{"0 and 0 and " + endless, done(0, 3)}, {"0 and " + endless + " or 3", done(1, 4)}, {"1 or 1 and " + endless, done(1, 2)},
		{"1 and (0 and " + endless + ")", done(0, 4)}, {"0 or (5 or " + endless + ")", done(1, 4)},
	} {
		textMeans(t, c.text, someBinds, c.want)
	}
}

func TestNamesThatAreKnownInside(t *testing.T) {
	for _, c := range []struct {
		text       string
		val, steps int
	}{
		{"let x = 1 in x", 1, 3}, {"let x = x + 1 in x * 10", 60, 7}, {"let x = 1 in let x = x + 1 in x", 2, 7}, {"let x = 1 in (let x = 2 in x) * 10 + x", 21, 9},
		{"let a = 1 in (let a = 2 in a) + (let a = a + 5 in a) * 10 + a * 100", 162, 17}, {"(let x = 1 in x) + x", 6, 5}, {"x + (let x = 1 in x)", 6, 5},
		{"let a = (let a = 3 in a + a) in a * a", 36, 9}, {"let x = 1 in let y = 2 in x * 10 + y", 12, 9}, {"let x = y in let y = x in x + y", -6, 7},
		{"rep 3 as x from x by x + 1", 8, 15}, {"rep x as x from 0 by x + 1", 5, 23}, {"rep 2 as x from x + 1 by x * x", 1296, 13}, {"(rep 3 as x from 0 by x + 1) + x", 8, 17},
		{"rep 3 as x from 0 by let x = x + 1 in x", 3, 21}, {"rep 2 as s from 1 by rep s as s from s by s + 1", 4, 3 + 2*4 + 3*4}, {"let s = 7 in rep 2 as s from 0 by s + 1", 2, 13},
		{"let s = 3 in (rep 2 as s from s by s + 1) * 10 + s", 53, 17}, {"rep 2 as s from 1 by (let s = 10 in s) + s", 21, 3 + 2*6}, {"rep 2 as a from 1 by rep 2 as b from a by a + b", 9, 3 + 2*(4+8)},
		{"rep 2 as a from 1 by rep a as a from 0 by a + 1", 1, 3 + 2*(4+4)}, {"let x = 2 in rep x as y from x by x * y", 8, 5 + 2*4},
		{"let x = 0 in if x then x else let x = 4 in x", 4, 7}, {"0 and (let x = 1 in x) or x", 1, 4},
	} {
		textMeans(t, c.text, someBinds, done(c.val, c.steps))
	}
}

// busyTree is a tree that asks for some names, and often goes round in rounds; it may be 2 deeper than asked for.
func busyTree(r *rand.Rand, size, deep int) []impl.Node {
	l := randomTree(r, size, deep)
	for i := range l {
		if l[i].Kind == impl.NodeNum && r.Intn(3) > 0 {
			l[i].Num = r.Intn(70)
		}
		if l[i].Name != "" {
			l[i].Name = someNames[r.Intn(4)]
		}
	}
	for range r.Intn(3) * r.Intn(2) {
		l = named(impl.NodeRep, someNames[r.Intn(4)], num(r.Intn(70)), name(someNames[r.Intn(4)]), l)
	}
	return l
}

func randomBinds(r *rand.Rand) []impl.Bind {
	var b []impl.Bind
	for _, i := range r.Perm(len(someNames)) {
		if i > 3 && r.Intn(2) == 0 || r.Intn(12) == 0 {
			continue
		}
		b = append(b, impl.Bind{Name: someNames[i], Val: edgeNums[r.Intn(len(edgeNums))]})
	}
	return b
}

func TestMeaningsAgainstModel(t *testing.T) {
	r := rand.New(rand.NewSource(33))
	var codes [5]int
	for i := range 8000 {
		size, deep := 1+r.Intn(30), 1+r.Intn(8)
		if i%20 == 0 {
			size, deep = 1+r.Intn(400), 1+r.Intn(40)
		}
		l, b := busyTree(r, size, deep), randomBinds(r)
		switch r.Intn(30) {
		case 0:
			l[r.Intn(len(l))].Kind = r.Intn(25)
		case 1:
			b = append(b, impl.Bind{Name: []string{"x", "q", "Q"}[r.Intn(3)]})
		}
		val, steps, code := modelMean(l, b)
		means(t, l, b, meant{val, steps, code})
		codes[code]++
	}
	if codes[impl.MeanDone] < 3000 || codes[impl.MeanBad] < 200 || codes[impl.MeanFree] < 200 || codes[impl.MeanSpent] < 200 {
		t.Fatal(codes)
	}
}

func TestMeaningsOfGreatTrees(t *testing.T) {
	means(t, wide(399), nil, done(200, 399))
	means(t, negs(39, num(7)), nil, done(-7, 40))
	means(t, negs(1, wide(399)), nil, done(-200, 400))
	l := tree(t, "let a = 1 in "+strings.Repeat("let a = a + a in ", 37)+"a")
	means(t, l, nil, done(1<<37, 3+37*4))
	means(t, make([]impl.Node, 100000), nil, wrong)
}
