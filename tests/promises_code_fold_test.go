package tests

import (
	"math/rand"
	"slices"
	"strings"
	"testing"

	"loop.example/headrace/impl"
)

// runsAsMeant holds the code of a tree against what the tree means, and tells the code of that.
func runsAsMeant(t *testing.T, l []impl.Node, b []impl.Bind) int {
	t.Helper()
	c, ok := impl.CodeMake(l)
	if ok != impl.TreeOk(l) {
		t.Fatalf("%v: %v", l, ok)
	}
	want := meanOf(l, b)
	if got := runOf(c, b); got != want {
		t.Fatalf("%q with %v runs to %v, and means %v", impl.TreeShow(l), b, got, want)
	}
	return want.code
}

func TestPromise15CodeRunsToWhatTreesMean(t *testing.T) {
	r := rand.New(rand.NewSource(15))
	var codes [5]int
	for i := range 12000 {
		size, deep := 1+r.Intn(30), 1+r.Intn(8)
		if i%20 == 0 {
			size, deep = 1+r.Intn(400), 1+r.Intn(40)
		}
		l, b := busyTree(r, size, deep), randomBinds(r)
		switch r.Intn(30) {
		case 0:
			l[r.Intn(len(l))].Kind = r.Intn(25)
		case 1:
			b = append(b, impl.Bind{Name: []string{"x", "q", "Q"}[r.Intn(3)]})
		}
		codes[runsAsMeant(t, l, b)]++
		codes[runsAsMeant(t, l, bindsFor(r, l))]++
	}
	if codes[impl.MeanDone] < 8000 || codes[impl.MeanBad] < 300 || codes[impl.MeanFree] < 300 || codes[impl.MeanSpent] < 300 || codes[impl.MeanStuck] != 0 {
		t.Fatal(codes)
	}
}

func TestPromise15AtTheEdges(t *testing.T) {
	for _, l := range noTrees {
		runsAsMeant(t, l, someBinds)
		runsAsMeant(t, l, bound("x", "x"))
	}
	for k := impl.NodeNum; k <= impl.NodeRep; k++ {
		for _, a := range edgeNums {
			for _, b := range edgeNums[:12] {
				runsAsMeant(t, sample(k), []impl.Bind{{Name: "n", Val: a}, {Name: "p", Val: a}, {Name: "q", Val: b}, {Name: "r", Val: b}})
			}
		}
		for at := range kidsOf[k] {
			for _, v := range []int{0, 1, 3, -1} {
				runsAsMeant(t, nest(k, at, 39, name("v")), []impl.Bind{{Name: "v", Val: v}})
				runsAsMeant(t, nest(k, at, 5, name("v")), []impl.Bind{{Name: "v", Val: v}})
			}
		}
	}
	for _, v := range edgeNums {
		runsAsMeant(t, spread(133), []impl.Bind{{Name: "v", Val: v}})
		runsAsMeant(t, spread(20), []impl.Bind{{Name: "v", Val: v}})
	}
	runsAsMeant(t, wide(399), nil)
	runsAsMeant(t, negs(1, wide(399)), nil)
	for _, text := range []string{endless, "0 and " + endless, endless + " or q", "rep 64 as s from 0 by s + 1", "rep -1 as s from 3 by " + endless, "let a = " + endless + " in 1", "0 and q", "let q = 1 in q", "rep 1 as q from 2 by q"} {
		for _, b := range [][]impl.Bind{nil, someBinds, bound("q"), bound("q", "q"), manyBinds(40), manyBinds(41)} {
			runsAsMeant(t, tree(t, text), b)
		}
	}
}

// The last step is met at each step of a node of each kind.
func TestPromise15AtTheLastStep(t *testing.T) {
	for k := impl.NodeNum; k <= impl.NodeRep; k++ {
		own := stepsOf(t, sample(k))
		for more := -2; more <= own+1; more++ {
			l := kind(impl.NodeSub, filled(impl.MeanMaxSteps-1-own+more), sample(k))
			want := impl.MeanDone
			if more > 0 {
				want = impl.MeanSpent
			}
			if got := runsAsMeant(t, l, stepBinds); got != want {
				t.Fatalf("%s: %d, not %d", wordOf[k], got, want)
			}
		}
	}
}

// No tree's code takes more of the machine than it has: the busiest rounds end by the steps.
func TestPromise15BusiestTrees(t *testing.T) {
	for _, step := range []string{"s", "0", "rep 64 as u from 0 by 0", "rep 64 as u from 0 by rep 0 as v from 0 by 0", "rep 64 as u from 0 by s or u", "rep 64 as u from 0 by s and u"} {
		l := tree(t, "rep 64 as r from 0 by rep 64 as s from 1 by "+step)
		runsAsMeant(t, l, nil)
		runsAsMeant(t, named(impl.NodeRep, "w", num(64), num(0), l), nil)
	}
	if got := meanOf(tree(t, endless), nil); got != lacking {
		t.Fatal(got)
	}
}

// foldedWell holds a tree that is reckoned ahead against the tree.
func foldedWell(t *testing.T, l []impl.Node, b []impl.Bind) bool {
	t.Helper()
	f := impl.FoldTree(l)
	if !impl.TreeOk(f) || len(f) > len(l) || impl.TreeDeep(f) > impl.TreeDeep(l) {
		t.Fatalf("%q becomes %q", impl.TreeShow(l), impl.TreeShow(f))
	}
	free := impl.TreeFree(l)
	for _, s := range impl.TreeFree(f) {
		if !slices.Contains(free, s) {
			t.Fatalf("%q becomes %q, which asks for %q", impl.TreeShow(l), impl.TreeShow(f), s)
		}
	}
	if again := impl.FoldTree(f); !slices.Equal(again, f) {
		t.Fatalf("%q becomes %q, and that %q", impl.TreeShow(l), impl.TreeShow(f), impl.TreeShow(again))
	}
	want, got := meanOf(l, b), meanOf(f, b)
	if want.code == impl.MeanDone && (got.code != impl.MeanDone || got.val != want.val || got.steps > want.steps) {
		t.Fatalf("%q with %v means %v, but as %q %v", impl.TreeShow(l), b, want, impl.TreeShow(f), got)
	}
	return want.code == impl.MeanDone
}

func TestPromise19ReckonedAhead(t *testing.T) {
	r := rand.New(rand.NewSource(19))
	had := 0
	manyTrees(19, 3000, func(l []impl.Node) {
		had += oneIf(foldedWell(t, l, bindsFor(r, l)))
	})
	for i := range 6000 {
		size, deep := 1+r.Intn(30), 1+r.Intn(8)
		if i%20 == 0 {
			size, deep = 1+r.Intn(400), 1+r.Intn(40)
		}
		l := foldable(r, size, deep)
		if i%2 == 0 {
			l = busyTree(r, size, min(deep, 38))
		}
		had += oneIf(foldedWell(t, l, bindsFor(r, l)))
		foldedWell(t, l, randomBinds(r))
	}
	if had < 6000 {
		t.Fatal(had)
	}
}

func TestPromise19AtTheEdges(t *testing.T) {
	for _, text := range []string{"-0", "--1", "0 - 1", "0 - 999999999999999999", "999999999999999999 + 1", "-5 or x", "0 and q", "x and 0", "4294967296 * 2147483648", "if 1 then x else q", "let x = 1 in x", "rep 0 as s from 1 by q", "1 / 0", "-7 % 2", "not not 7", "0 or 5", "1 and 5"} {
		l := tree(t, text)
		foldedWell(t, l, bindsFor(rand.New(rand.NewSource(1)), l))
		foldedWell(t, l, someBinds)
	}
	foldedWell(t, negs(39, num(7)), nil)
	foldedWell(t, wide(399), nil)
	foldedWell(t, spread(133), bound("v"))
	// A tree without a value may have one when it is reckoned ahead.
	means(t, impl.FoldTree(tree(t, "0 and q")), nil, done(0, 1))
	means(t, impl.FoldTree(tree(t, "if 0 then q else 7")), nil, done(7, 1))
	// Nothing is gained where a tree has no value for want of steps.
	l := tree(t, endless)
	if !slices.Equal(impl.FoldTree(l), l) || meanOf(impl.FoldTree(l), nil) != lacking {
		t.Error(impl.TreeShow(impl.FoldTree(l)))
	}
	// The last step: a constant reckoned ahead leaves steps for others.
	for more := -2; more <= 2; more++ {
		l := kind(impl.NodeSub, filled(impl.MeanMaxSteps-4+more), kind(impl.NodeAdd, num(1), num(2)))
		limitMet(t, "the tree", l, impl.MeanMaxSteps+more)
		foldedWell(t, l, nil)
		if got := meanOf(impl.FoldTree(l), nil); got.code != impl.MeanDone {
			t.Errorf("%d more: %v", more, got)
		}
	}
	for _, l := range noTrees {
		if len(impl.FoldTree(l)) != 0 {
			t.Errorf("%v", l)
		}
	}
}

func TestPromise24KidsAreTreesLessDeep(t *testing.T) {
	seen := 0
	manyTrees(24, 1500, func(l []impl.Node) {
		for at, n := range l {
			whole := l[at:impl.TreeEnd(l, at)]
			deep := impl.TreeDeep(whole)
			deepest, next := 0, at+1
			for range n.Kids {
				kid := l[next:impl.TreeEnd(l, next)]
				next += len(kid)
				if !impl.TreeOk(kid) || impl.TreeDeep(kid) >= deep {
					t.Fatalf("%q of %q", impl.TreeShow(kid), impl.TreeShow(whole))
				}
				deepest = max(deepest, impl.TreeDeep(kid))
				seen++
			}
			if next != at+len(whole) || deep != deepest+1 {
				t.Fatalf("%q is %d deep, its kids %d", impl.TreeShow(whole), deep, deepest)
			}
		}
	})
	if seen < 10000 {
		t.Fatal(seen)
	}
}

// linesAreCode reads the lines of code back.
func linesAreCode(t *testing.T, c []impl.Ins) {
	t.Helper()
	text := impl.CodeShow(c)
	if !strings.HasSuffix(text, "\n") || strings.Count(text, "\n") != len(c) {
		t.Fatalf("%d instructions, %q", len(c), text)
	}
	for i, line := range strings.Split(strings.TrimSuffix(text, "\n"), "\n") {
		if ins, err := insOf(line); err != nil || ins != c[i] {
			t.Fatalf("%q of %+v: %+v, %v", line, c[i], ins, err)
		}
	}
}

func TestPromise24LinesOfCodeAreItsInstructions(t *testing.T) {
	manyTrees(124, 1500, func(l []impl.Node) {
		c, _ := impl.CodeMake(l)
		linesAreCode(t, c)
	})
	r := rand.New(rand.NewSource(224))
	for range 5000 {
		linesAreCode(t, randomCode(r))
	}
	linesAreCode(t, slices.Repeat(codeOf("push -9223372036854775808"), 4000))
	for _, c := range [][]impl.Ins{nil, {}, {{}}, {{Op: 12}}, {{Op: impl.InsGet, A: -1}}, {{Op: impl.InsLoad, Name: "a\nb"}}, {{Op: impl.InsTick}, {Op: impl.InsTick, Name: "x"}}, slices.Repeat(codeOf("tick"), 4001)} {
		if impl.CodeShow(c) != "" {
			t.Errorf("%v", c)
		}
	}
}
