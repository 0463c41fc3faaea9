package tests

import (
	"math/rand"
	"slices"
	"strings"
	"testing"

	"loop.example/headrace/impl"
)

func showsAs(t *testing.T, l []impl.Node, want string) {
	t.Helper()
	if got := impl.TreeShow(l); got != want {
		t.Fatalf("%v: %q, not %q", l, got, want)
	}
}

func TestShowEachForm(t *testing.T) {
	a, b, c := name("a"), name("b"), name("c")
	showsAs(t, num(0), "0")
	showsAs(t, num(greatest), "999999999999999999")
	showsAs(t, name("abcdefgh"), "abcdefgh")
	showsAs(t, kind(impl.NodeNeg, a), "-a")
	showsAs(t, kind(impl.NodeNeg, num(1)), "-1")
	showsAs(t, kind(impl.NodeNot, a), "not a")
	for k := impl.NodeMul; k <= impl.NodeOr; k++ {
		showsAs(t, kind(k, a, b), "a "+wordOf[k]+" b")
	}
	showsAs(t, kind(impl.NodeMin, a, b), "min(a, b)")
	showsAs(t, kind(impl.NodeMax, a, b), "max(a, b)")
	showsAs(t, kind(impl.NodeAbs, a), "abs(a)")
	showsAs(t, kind(impl.NodeIf, a, b, c), "if a then b else c")
	showsAs(t, named(impl.NodeLet, "x", a, b), "let x = a in b")
	showsAs(t, named(impl.NodeRep, "x", a, b, c), "rep a as x from b by c")
	showsAs(t, kind(impl.NodeNeg, kind(impl.NodeNeg, a)), "--a")
	showsAs(t, kind(impl.NodeNeg, kind(impl.NodeNot, a)), "-not a")
	showsAs(t, kind(impl.NodeNot, kind(impl.NodeNeg, a)), "not -a")
	showsAs(t, kind(impl.NodeSub, a, kind(impl.NodeNeg, b)), "a - -b")
	showsAs(t, kind(impl.NodeNot, kind(impl.NodeAnd, a, b)), "not (a and b)")
	showsAs(t, kind(impl.NodeNeg, kind(impl.NodeSub, a, b)), "-(a - b)")
	showsAs(t, kind(impl.NodeAbs, kind(impl.NodeIf, a, b, c)), "abs(if a then b else c)")
}

// needs: for each kid of each kind, as groups of kinds: which of these stand in brackets there.
func needs(parent, at, kid int) bool {
	loose := map[string][]int{
		"*/%": {impl.NodeMul, impl.NodeDiv, impl.NodeMod},
		"+-":  {impl.NodeAdd, impl.NodeSub},
		"=":   {impl.NodeEq, impl.NodeNe, impl.NodeLt, impl.NodeLe, impl.NodeGt, impl.NodeGe},
		"and": {impl.NodeAnd},
		"or":  {impl.NodeOr},
		"if":  {impl.NodeIf, impl.NodeLet, impl.NodeRep},
	}
	in := func(groups ...string) bool {
		return slices.ContainsFunc(groups, func(g string) bool { return slices.Contains(loose[g], kid) })
	}
	switch {
	case parent == impl.NodeNeg || parent == impl.NodeNot:
		return in("*/%", "+-", "=", "and", "or", "if")
	case slices.Contains(loose["*/%"], parent):
		return in("+-", "=", "and", "or", "if") || at == 1 && in("*/%")
	case slices.Contains(loose["+-"], parent):
		return in("=", "and", "or", "if") || at == 1 && in("+-")
	case slices.Contains(loose["="], parent):
		return in("=", "and", "or", "if")
	case parent == impl.NodeAnd:
		return in("or", "if") || at == 1 && in("and")
	case parent == impl.NodeOr:
		return in("if") || at == 1 && in("or")
	}
	return false
}

func TestBracketsOfEachKindBeneathEachOther(t *testing.T) {
	for parent := impl.NodeNeg; parent <= impl.NodeRep; parent++ {
		for at := range kidsOf[parent] {
			for kid := impl.NodeNum; kid <= impl.NodeRep; kid++ {
				kids := [][]impl.Node{name("p"), name("q"), name("r")}[:kidsOf[parent]]
				kids[at] = name("hole")
				around := spaced(bareWords(sample(parent, kids...)))
				kids[at] = sample(kid)
				tree := sample(parent, kids...)
				inner := spaced(bareWords(sample(kid)))
				with := strings.Replace(around, "hole", "("+inner+")", 1)
				bare := strings.Replace(around, "hole", inner, 1)
				readsAs(t, with, tree)
				readsAs(t, strings.Replace(around, "hole", "(("+inner+"))", 1), tree)
				got, f := impl.TreeRead(bare)
				if same := f.Code == 0 && slices.Equal(got, tree); same == needs(parent, at, kid) {
					t.Fatalf("%q read as %q: %v", bare, with, same)
				}
				want := bare
				if needs(parent, at, kid) {
					want = with
				}
				showsAs(t, tree, want)
			}
		}
	}
}

// bareWords are the words of a tree whose kids are leaves, without brackets.
func bareWords(l []impl.Node) []string {
	words := fullWords(l)
	for len(pairs(words)) > 0 {
		words = without(words, pairs(words)[0])
	}
	return words
}

func TestShowAgainstModel(t *testing.T) {
	r := rand.New(rand.NewSource(7))
	for range 1500 {
		l := randomTree(r, 1+r.Intn(12), 1+r.Intn(6))
		showsAs(t, l, spaced(fewest(l)))
	}
}

func TestShowLongTrees(t *testing.T) {
	l, want := calls(200)
	if len(l) != 399 || len(want) <= impl.BodyMaxText {
		t.Fatal(len(l), len(want))
	}
	showsAs(t, l, want)
	wrongTree(t, want, impl.BodyLong, 0)
}
