package tests

import (
	"math/rand"
	"slices"
	"strings"
	"testing"

	"loop.example/headrace/impl"
)

func makes(t *testing.T, l []impl.Node, want []string) {
	t.Helper()
	c, ok := impl.CodeMake(l)
	if !ok || !impl.CodeOk(c) || !slices.Equal(c, insOfLines(want)) {
		t.Fatalf("%q: %v\n%s\nnot\n%s", impl.TreeShow(l), ok, impl.CodeShow(c), strings.Join(want, "\n"))
	}
	if impl.CodeShow(c) != strings.Join(want, "\n")+"\n" {
		t.Fatalf("%q: %q", impl.TreeShow(l), impl.CodeShow(c))
	}
}

func textMakes(t *testing.T, text, want string) {
	t.Helper()
	makes(t, tree(t, text), cut(want))
	makes(t, tree(t, text), modelCode(tree(t, text)))
}

func TestCodeOfEachKind(t *testing.T) {
	textMakes(t, "0", "tick; push 0")
	textMakes(t, "999999999999999999", "tick; push 999999999999999999")
	textMakes(t, "abcdefgh", "tick; load abcdefgh")
	textMakes(t, "-x", "tick; tick; load x; neg")
	textMakes(t, "not 3", "tick; tick; push 3; not")
	textMakes(t, "abs(x)", "tick; tick; load x; abs")
	for k, word := range map[int]string{impl.NodeMul: "mul", impl.NodeDiv: "div", impl.NodeMod: "mod", impl.NodeAdd: "add", impl.NodeSub: "sub", impl.NodeEq: "eq", impl.NodeNe: "ne", impl.NodeLt: "lt", impl.NodeLe: "le", impl.NodeGt: "gt", impl.NodeGe: "ge", impl.NodeMin: "min", impl.NodeMax: "max"} {
		makes(t, kind(k, name("x"), num(2)), cut("tick; tick; load x; tick; push 2; "+word))
	}
	textMakes(t, "x and y", "tick; tick; load x; zero 8; tick; load y; bool; jump 9; push 0")
	textMakes(t, "x or y", "tick; tick; load x; zero 6; push 1; jump 9; tick; load y; bool")
	textMakes(t, "if x then y else 3", "tick; tick; load x; zero 7; tick; load y; jump 9; tick; push 3")
	textMakes(t, "let a = 4 in a", "tick; tick; push 4; put 0; tick; get 0")
	textMakes(t, "rep x as s from 5 by s", "tick; tick; load x; times; put 0; tick; push 5; put 1; get 0; zero 19; tick; tick; get 1; put 1; get 0; push 1; sub; put 0; jump 8; get 1")
}

func TestCodeOfNodesWithinNodes(t *testing.T) {
	textMakes(t, "-(1 + x) * 2", "tick; tick; tick; tick; push 1; tick; load x; add; neg; tick; push 2; mul")
	textMakes(t, "x and y or 3", "tick; tick; tick; load x; zero 9; tick; load y; bool; jump 10; push 0; zero 13; push 1; jump 16; tick; push 3; bool")
	textMakes(t, "if x or y then 1 else 2", "tick; tick; tick; load x; zero 7; push 1; jump 10; tick; load y; bool; zero 14; tick; push 1; jump 16; tick; push 2")
	textMakes(t, "if 1 then if 2 then 3 else 4 else 5", "tick; tick; push 1; zero 14; tick; tick; push 2; zero 11; tick; push 3; jump 13; tick; push 4; jump 16; tick; push 5")
	textMakes(t, "1 or (2 or 3)", "tick; tick; push 1; zero 6; push 1; jump 16; tick; tick; push 2; zero 12; push 1; jump 15; tick; push 3; bool; bool")
}

func TestSlotsOfLets(t *testing.T) {
	textMakes(t, "let a = (let b = 2 in b) in a", "tick; tick; tick; push 2; put 0; tick; get 0; put 0; tick; get 0")
	textMakes(t, "let a = 1 in let b = 2 in a + b", "tick; tick; push 1; put 0; tick; tick; push 2; put 1; tick; tick; get 0; tick; get 1; add")
	textMakes(t, "(let a = 1 in a) + (let b = 2 in b)", "tick; tick; tick; push 1; put 0; tick; get 0; tick; tick; push 2; put 0; tick; get 0; add")
	textMakes(t, "let a = (rep 1 as b from 2 by b) in a", "tick; tick; tick; push 1; times; put 0; tick; push 2; put 1; get 0; zero 20; tick; tick; get 1; put 1; get 0; push 1; sub; put 0; jump 9; get 1; put 0; tick; get 0")
	textMakes(t, "let a = 7 in rep a as b from a by a + b", "tick; tick; push 7; put 0; tick; tick; get 0; times; put 1; tick; get 0; put 2; get 1; zero 27; tick; tick; tick; get 0; tick; get 2; add; put 2; get 1; push 1; sub; put 1; jump 12; get 2")
}

func TestSlotsOfReps(t *testing.T) {
	// In its count none of its slots is taken, in its first value the first one, in its step both.
	textMakes(t, "rep (let a = 3 in a) as s from 5 by s", "tick; tick; tick; push 3; put 0; tick; get 0; times; put 0; tick; push 5; put 1; get 0; zero 23; tick; tick; get 1; put 1; get 0; push 1; sub; put 0; jump 12; get 1")
	textMakes(t, "rep 3 as s from (let a = 5 in a) by s", "tick; tick; push 3; times; put 0; tick; tick; push 5; put 1; tick; get 1; put 1; get 0; zero 23; tick; tick; get 1; put 1; get 0; push 1; sub; put 0; jump 12; get 1")
	textMakes(t, "rep 3 as s from 5 by let a = s in a", "tick; tick; push 3; times; put 0; tick; push 5; put 1; get 0; zero 23; tick; tick; tick; get 1; put 2; tick; get 2; put 1; get 0; push 1; sub; put 0; jump 8; get 1")
	textMakes(t, "rep (rep 1 as a from 2 by a) as s from 5 by s", "tick; tick; tick; push 1; times; put 0; tick; push 2; put 1; get 0; zero 20; tick; tick; get 1; put 1; get 0; push 1; sub; put 0; jump 9; get 1; "+
		"times; put 0; tick; push 5; put 1; get 0; zero 37; tick; tick; get 1; put 1; get 0; push 1; sub; put 0; jump 26; get 1")
	textMakes(t, "rep 3 as s from (rep 1 as a from 2 by a) by s", "tick; tick; push 3; times; put 0; tick; tick; push 1; times; put 1; tick; push 2; put 2; get 1; zero 24; tick; tick; get 2; put 2; get 1; push 1; sub; put 1; jump 13; get 2; "+
		"put 1; get 0; zero 37; tick; tick; get 1; put 1; get 0; push 1; sub; put 0; jump 26; get 1")
	textMakes(t, "rep 3 as s from 5 by rep s as a from 2 by a", "tick; tick; push 3; times; put 0; tick; push 5; put 1; get 0; zero 37; tick; "+
		"tick; tick; get 1; times; put 2; tick; push 2; put 3; get 2; zero 30; tick; tick; get 3; put 3; get 2; push 1; sub; put 2; jump 19; get 3; "+
		"put 1; get 0; push 1; sub; put 0; jump 8; get 1")
}

func TestNamesThatAreKnownInCode(t *testing.T) {
	textMakes(t, "let x = x in x", "tick; tick; load x; put 0; tick; get 0")
	textMakes(t, "let x = 1 in let x = x in x", "tick; tick; push 1; put 0; tick; tick; get 0; put 1; tick; get 1")
	textMakes(t, "let x = 1 in (let x = 2 in x) - x", "tick; tick; push 1; put 0; tick; tick; tick; push 2; put 1; tick; get 1; tick; get 0; sub")
	textMakes(t, "(let x = 1 in x) - x", "tick; tick; tick; push 1; put 0; tick; get 0; tick; load x; sub")
	textMakes(t, "let x = 1 in let y = 2 in x", "tick; tick; push 1; put 0; tick; tick; push 2; put 1; tick; get 0")
	textMakes(t, "rep x as x from x by x", "tick; tick; load x; times; put 0; tick; load x; put 1; get 0; zero 19; tick; tick; get 1; put 1; get 0; push 1; sub; put 0; jump 8; get 1")
	textMakes(t, "let x = 1 in rep x as x from x by x", "tick; tick; push 1; put 0; tick; tick; get 0; times; put 1; tick; get 0; put 2; get 1; zero 23; tick; tick; get 2; put 2; get 1; push 1; sub; put 1; jump 12; get 2")
	textMakes(t, "(rep 1 as x from 2 by x) + x", "tick; tick; tick; push 1; times; put 0; tick; push 2; put 1; get 0; zero 20; tick; tick; get 1; put 1; get 0; push 1; sub; put 0; jump 9; get 1; tick; load x; add")
}

// A node of each kind as each kid of each kind, and that once more within a let and a rep.
func TestCodeOfEachKindWithinEachOther(t *testing.T) {
	for parent := impl.NodeNeg; parent <= impl.NodeRep; parent++ {
		for at := range kidsOf[parent] {
			for kid := impl.NodeNum; kid <= impl.NodeRep; kid++ {
				kids := [][]impl.Node{name("v"), name("v"), name("v")}[:kidsOf[parent]]
				kids[at] = sample(kid, [][]impl.Node{name("v"), name("p"), name("v")}[:kidsOf[kid]]...)
				l := sample(parent, kids...)
				for _, whole := range [][]impl.Node{l, named(impl.NodeLet, "v", l, l), named(impl.NodeRep, "p", l, l, l), named(impl.NodeRep, "v", l, l, l)} {
					makes(t, whole, modelCode(whole))
				}
			}
		}
	}
}

func TestNoCodeOfListsThatAreNoTrees(t *testing.T) {
	for _, l := range noTrees {
		if c, ok := impl.CodeMake(l); ok || len(c) != 0 {
			t.Errorf("%v: %v %v", l, c, ok)
		}
		if c, ok := impl.CodeMake(kind(impl.NodeNeg, l)); ok || len(c) != 0 {
			t.Errorf("%v beneath: %v %v", l, c, ok)
		}
	}
}

// nest puts a tree of a kind with three or two kids into its own kid, so many times.
func nest(k, at, times int, inner []impl.Node) []impl.Node {
	for range times {
		kids := [][]impl.Node{num(1), num(1), num(1)}[:kidsOf[k]]
		kids[at] = inner
		inner = sample(k, kids...)
	}
	return inner
}

func highestSlot(c []impl.Ins) int {
	highest := -1
	for _, ins := range c {
		if ins.Op == impl.InsGet || ins.Op == impl.InsPut {
			highest = max(highest, ins.A)
		}
	}
	return highest
}

func TestCodeOfTheDeepestTrees(t *testing.T) {
	for k := impl.NodeNeg; k <= impl.NodeRep; k++ {
		for at := range kidsOf[k] {
			for _, leaf := range [][]impl.Node{num(1), name("v"), name("n")} {
				l := nest(k, at, 39, leaf)
				makes(t, l, modelCode(l))
			}
		}
	}
	for _, c := range []struct{ kind, at, want int }{{impl.NodeLet, 0, 0}, {impl.NodeLet, 1, 38}, {impl.NodeRep, 0, 1}, {impl.NodeRep, 1, 39}, {impl.NodeRep, 2, 77}} {
		code, _ := impl.CodeMake(nest(c.kind, c.at, 39, name("v")))
		if got := highestSlot(code); got != c.want {
			t.Errorf("%s in its kid %d: slot %d, not %d", wordOf[c.kind], c.at, got, c.want)
		}
	}
}

// spread is a tree of so many reps, in all kids of each other.
func spread(reps int) []impl.Node {
	if reps == 0 {
		return name("v")
	}
	third := (reps - 1) / 3
	return sample(impl.NodeRep, spread(third), spread(third), spread(reps-1-2*third))
}

func TestCodeOfTheGreatestTrees(t *testing.T) {
	for _, l := range [][]impl.Node{wide(399), negs(1, wide(399)), spread(133)} {
		makes(t, l, modelCode(l))
	}
	if len(spread(133)) != impl.TreeMaxNodes {
		t.Fatal(len(spread(133)))
	}
	// 133 reps of 14 instructions and 267 leaves of 2: no tree has more.
	if c, _ := impl.CodeMake(spread(133)); len(c) != 133*14+267*2 {
		t.Error(len(c))
	}
	r := rand.New(rand.NewSource(42))
	for range 60 {
		l := randomTree(r, 400, 40)
		makes(t, l, modelCode(l))
	}
}

func TestCodeOfTreesAgainstModel(t *testing.T) {
	r := rand.New(rand.NewSource(43))
	for range 6000 {
		l := busyTree(r, 1+r.Intn(40), 1+r.Intn(9))
		makes(t, l, modelCode(l))
	}
}
