package tests

import (
	"math/rand"
	"slices"
	"strconv"
	"strings"
	"testing"

	"loop.example/headrace/impl"
)

// The model of folding: wherever in the list a node may become less it does, the outermost first, until there is none.

func modelConst(l []impl.Node) (int, bool) {
	switch {
	case len(l) == 1 && l[0].Kind == impl.NodeNum:
		return l[0].Num, true
	case len(l) == 2 && l[0].Kind == impl.NodeNeg && l[1].Kind == impl.NodeNum && l[1].Num > 0:
		return -l[1].Num, true
	}
	return 0, false
}

// constant is the tree of a number; nothing where there is none.
func constant(n int) []impl.Node {
	if bigOf(n).CmpAbs(bigOf(greatest)) > 0 {
		return nil
	}
	if n < 0 {
		return kind(impl.NodeNeg, num(-n))
	}
	return num(n)
}

// lessOf is what a tree becomes by its own node alone; nothing where it stays.
func lessOf(l []impl.Node) []impl.Node {
	n, kids := split(l)
	if _, already := modelConst(l); already || n.Kids == 0 || n.Kind == impl.NodeLet || n.Kind == impl.NodeRep {
		return nil
	}
	a, ok := modelConst(kids[0])
	switch {
	case !ok:
		return nil
	case n.Kind == impl.NodeIf:
		return kids[2-oneIf(a != 0)]
	case n.Kind == impl.NodeAnd && a == 0:
		return num(0)
	case n.Kind == impl.NodeOr && a != 0:
		return num(1)
	case n.Kids == 1:
		return constant(modelOp(n.Kind, a, 0))
	}
	b, ok := modelConst(kids[1])
	if !ok {
		return nil
	}
	return constant(modelOp(n.Kind, a, b))
}

func modelFold(l []impl.Node) []impl.Node {
again:
	for at := range l {
		end := modelEnd(l, at)
		if less := lessOf(l[at:end]); less != nil {
			l = slices.Concat(l[:at], less, l[end:])
			goto again
		}
	}
	return l
}

func foldsTo(t *testing.T, l, want []impl.Node) {
	t.Helper()
	if got := impl.FoldTree(l); !slices.Equal(got, want) {
		t.Fatalf("%q: %q, not %q", impl.TreeShow(l), impl.TreeShow(got), impl.TreeShow(want))
	}
	if model := modelFold(l); !slices.Equal(model, want) {
		t.Fatalf("%q: the model has %q, not %q", impl.TreeShow(l), impl.TreeShow(model), impl.TreeShow(want))
	}
}

func textFolds(t *testing.T, text, want string) {
	t.Helper()
	foldsTo(t, tree(t, text), tree(t, want))
}

func stays(t *testing.T, texts ...string) {
	t.Helper()
	for _, text := range texts {
		textFolds(t, text, text)
	}
}

func TestConstants(t *testing.T) {
	for _, n := range []int{0, 1, 2, 64, 1 << 32, greatest - 1, greatest} {
		if v, ok := impl.FoldConst(num(n)); !ok || v != n {
			t.Errorf("%d: %d %v", n, v, ok)
		}
		if v, ok := impl.FoldConst(kind(impl.NodeNeg, num(n))); ok != (n != 0) || v != -n {
			t.Errorf("-%d: %d %v", n, v, ok)
		}
	}
	for _, text := range []string{"-0", "--0", "--5", "---5", "x", "-x", "not 1", "not 0", "abs(1)", "abs(-1)", "-abs(1)", "1 + 2", "-(1 + 2)", "0 - 5", "min(1, 1)", "1 and 1", "0 or 0", "if 1 then 2 else 3", "let a = 1 in 2", "let a = 1 in a", "rep 0 as a from 1 by 1", "-not 1", "not -1", "1 / 0"} {
		if v, ok := impl.FoldConst(tree(t, text)); ok || v != 0 {
			t.Errorf("%q: %d %v", text, v, ok)
		}
	}
	for k := impl.NodeName; k <= impl.NodeRep; k++ {
		l := sample(k, [][]impl.Node{num(1), num(2), num(3)}[:kidsOf[k]]...)
		if _, ok := impl.FoldConst(l); ok != (k == impl.NodeNeg) {
			t.Errorf("%q: %v", impl.TreeShow(l), ok)
		}
	}
}

func TestConstantsOfListsThatAreNoTrees(t *testing.T) {
	lists := append(slices.Clone(noTrees), num(least), num(most), kind(impl.NodeNeg, num(-1)), kind(impl.NodeNeg, num(greatest+1)), kind(impl.NodeNeg, num(least)), slices.Concat(num(1), num(1)), slices.Concat(negs(1, num(1)), num(1)), slices.Concat(num(1), negs(1, num(1))),
		[]impl.Node{{Kind: impl.NodeNeg, Kids: 1}}, []impl.Node{{Kind: impl.NodeNeg, Kids: 2}, {Kind: impl.NodeNum, Num: 1}}, []impl.Node{{Kind: impl.NodeNeg, Num: 1, Kids: 1}, {Kind: impl.NodeNum, Num: 1}}, []impl.Node{{Kind: impl.NodeNeg, Name: "x", Kids: 1}, {Kind: impl.NodeNum, Num: 1}}, []impl.Node{{Kind: impl.NodeNeg}, {Kind: impl.NodeNum, Num: 1}}, []impl.Node{{Kind: impl.NodeNeg, Kids: 1}, {Kind: impl.NodeNum, Num: 1, Name: "x"}}, []impl.Node{{Kind: impl.NodeNeg, Kids: 1}, {Kind: impl.NodeNum, Num: 1, Kids: 1}}, []impl.Node{{Kind: impl.NodeNum, Num: 1, Kids: -1}})
	for _, l := range lists {
		if v, ok := impl.FoldConst(l); ok || v != 0 {
			t.Errorf("%v: %d %v", l, v, ok)
		}
		if got := impl.FoldTree(l); len(got) != 0 {
			t.Errorf("%v: %v", l, got)
		}
		if got := impl.FoldTree(sample(impl.NodeIf, num(1), num(2), l)); len(l) > 0 && len(got) != 0 {
			t.Errorf("%v beneath: %v", l, got)
		}
	}
}

// A constant's text is a number's text, and no other tree has such a text.
func TestConstantsAgainstTheirTexts(t *testing.T) {
	r := rand.New(rand.NewSource(51))
	consts := 0
	for range 20000 {
		l := randomTree(r, 1+r.Intn(4), 1+r.Intn(3))
		text := impl.TreeShow(l)
		n, err := strconv.Atoi(text)
		want := err == nil && strconv.Itoa(n) == text
		consts += oneIf(want)
		v, ok := impl.FoldConst(l)
		if ok != want || ok && v != n || !ok && v != 0 {
			t.Fatalf("%q: %d %v", text, v, ok)
		}
	}
	if consts < 1000 {
		t.Fatal(consts)
	}
}

func TestFoldLeaves(t *testing.T) {
	stays(t, "0", "1", "999999999999999999", "x", "abcdefgh", "-1", "-999999999999999999", "-x")
	textFolds(t, "-0", "0")
	textFolds(t, "--0", "0")
	textFolds(t, "---0", "0")
	textFolds(t, "--5", "5")
	textFolds(t, "---5", "-5")
	textFolds(t, "--999999999999999999", "999999999999999999")
	stays(t, "--x", "---x", "not not x")
}

// Each sign with constants, and with a name in each kid's place.
func TestFoldEachSign(t *testing.T) {
	nums := []int{0, 1, -1, 2, 7, -7, 1 << 40, greatest, -greatest}
	for k := impl.NodeNeg; k <= impl.NodeAbs; k++ {
		for _, a := range nums {
			for _, b := range nums {
				kids := [][]impl.Node{constant(a), constant(b)}[:kidsOf[k]]
				l := kind(k, kids...)
				want := l
				if val := constant(modelOp(k, a, b)); val != nil {
					want = val
				}
				foldsTo(t, l, want)
			}
		}
		for at := range kidsOf[k] {
			for _, a := range nums {
				kids := [][]impl.Node{constant(a), constant(a)}[:kidsOf[k]]
				kids[at] = name("x")
				l := kind(k, kids...)
				want := l
				if at == 1 && (k == impl.NodeAnd && a == 0 || k == impl.NodeOr && a != 0) {
					want = num(oneIf(k == impl.NodeOr))
				}
				foldsTo(t, l, want)
			}
		}
	}
}

func TestFoldAndOr(t *testing.T) {
	textFolds(t, "0 and x", "0")
	textFolds(t, "0 and 5", "0")
	textFolds(t, "5 and 0", "0")
	textFolds(t, "5 and 7", "1")
	textFolds(t, "-5 and -7", "1")
	textFolds(t, "0 or 0", "0")
	textFolds(t, "0 or 7", "1")
	textFolds(t, "-3 or x", "1")
	textFolds(t, "2 or x", "1")
	textFolds(t, "2 or 0", "1")
	stays(t, "x and 0", "x and 1", "1 and x", "-1 and x", "x or 1", "x or 0", "0 or x", "x and y", "x or y")
	textFolds(t, "(1 - 1) and x", "0")
	textFolds(t, "(3 - 1) or x", "1")
	textFolds(t, "-0 and x", "0")
	textFolds(t, "-0 or 0", "0")
	stays(t, "0 or x + 1")
	textFolds(t, "x and 1 - 1", "x and 0")
	textFolds(t, "1 and x and 0 * 7", "1 and x and 0")
	textFolds(t, "x and (0 and y)", "x and 0")
	textFolds(t, "x and 0 and y", "x and 0 and y")
	textFolds(t, "1 and (0 and x)", "0")
	textFolds(t, "0 or (4 or x)", "1")
	textFolds(t, "0 and (let a = 1 in a)", "0")
	textFolds(t, "1 or (rep 64 as a from 1 by a)", "1")
	textFolds(t, "0 and 999999999999999999 + 1", "0")
	textFolds(t, "1 or 999999999999999999 + 1", "1")
	stays(t, "1 and 999999999999999999 + 1", "999999999999999999 + 1 and 0", "999999999999999999 + 1 or 1")
}

func TestFoldSizes(t *testing.T) {
	const big = "999999999999999999"
	textFolds(t, "999999999999999998 + 1", big)
	stays(t, big+" + 1")
	textFolds(t, "-999999999999999998 - 1", "-"+big)
	stays(t, "-"+big+" - 1", "-"+big+" + -1", big+" - -1")
	textFolds(t, big+" - 0", big)
	textFolds(t, "0 - "+big, "-"+big)
	textFolds(t, big+" * 1", big)
	textFolds(t, big+" * -1", "-"+big)
	stays(t, big+" * 2", big+" * -2", "500000000000000000 * 2")
	textFolds(t, "333333333333333333 * 3", big)
	textFolds(t, "333333333333333333 * -3", "-"+big)
	textFolds(t, "min("+big+", -"+big+")", "-"+big)
	textFolds(t, "abs(-"+big+")", big)
	// What stays is no constant for what stands above it.
	stays(t, "999999999999999999 + 1 - 1", "-(999999999999999999 + 1)", "abs(999999999999999999 + 1)", "not (999999999999999999 + 1)", "(999999999999999999 + 1) * 0", "(999999999999999999 + 1) / 0", "if 999999999999999999 + 1 then 1 else 2")
	textFolds(t, "1 + 1 + (999999999999999999 + (2 - 1))", "2 + (999999999999999999 + 1)")
}

func TestFoldWhatWraps(t *testing.T) {
	textFolds(t, "4294967296 * 4294967296", "0")
	textFolds(t, "4294967296 * 4294967297", "4294967296")
	stays(t, "4294967296 * 2147483648", "-4294967296 * 2147483648", "3037000500 * 3037000500", "999999999999999999 * 10")
	for _, a := range []int{1 << 31, 1 << 32, 3037000500, 6074001000, greatest, greatest - 7, 123456789012345678} {
		for _, b := range []int{1 << 31, 1 << 32, 1<<32 + 1, 3037000500, 18, 19, 37, 1844674407, greatest} {
			l := kind(impl.NodeMul, num(a), num(b))
			want := constant(wrapped(bigOf(0).Mul(bigOf(a), bigOf(b))))
			if want == nil {
				want = l
			}
			foldsTo(t, l, want)
		}
	}
}

func TestFoldDivisors(t *testing.T) {
	textFolds(t, "7 / 0", "0")
	textFolds(t, "7 % 0", "0")
	textFolds(t, "-7 / (1 - 1)", "0")
	textFolds(t, "0 / 0", "0")
	textFolds(t, "-7 / 2", "-3")
	textFolds(t, "-7 % 2", "-1")
	textFolds(t, "7 % -2", "1")
	stays(t, "x / 0", "x % 0", "x * 0", "0 * x", "0 / x", "x - x", "x = x", "x + 0", "1 * x")
}

func TestFoldIf(t *testing.T) {
	textFolds(t, "if 1 then x else y", "x")
	textFolds(t, "if 0 then x else y", "y")
	textFolds(t, "if -1 then x else y", "x")
	textFolds(t, "if -0 then x else y", "y")
	textFolds(t, "if 1 < 2 then x else q", "x")
	textFolds(t, "if 2 < 1 then x else y + (1 + 1)", "y + 2")
	textFolds(t, "if 0 and z then x else y", "y")
	textFolds(t, "if 1 or z then x else y", "x")
	textFolds(t, "if if 1 then 0 else 1 then x else y", "y")
	textFolds(t, "if (if 1 then z else 1) then x else y", "if z then x else y")
	stays(t, "if z then 1 else 1", "if z then x else x", "if z then 0 else 1")
	textFolds(t, "if z then 1 + 1 else 2 + 2", "if z then 2 else 4")
	textFolds(t, "if 1 then let a = 1 + 1 in a else y", "let a = 2 in a")
	textFolds(t, "3 + (if 1 then 4 else x)", "7")
	textFolds(t, "-(if 1 then 4 else x)", "-4")
	textFolds(t, "if 1 then if 0 then 1 else x else y", "x")
	stays(t, "if (let a = 1 in 1) then x else y", "if (rep 0 as a from 1 by 1) then x else y")
}

func TestFoldLetsAndReps(t *testing.T) {
	stays(t, "let x = 1 in 2", "let x = 1 in x", "rep 0 as s from 1 by s", "rep 1 as s from 1 by 1", "(let x = 1 in 2) + 3", "-(let x = 1 in 2)", "rep -5 as s from 0 by s")
	textFolds(t, "let x = 1 + 1 in x + (2 + 3)", "let x = 2 in x + 5")
	textFolds(t, "let x = 1 in x + x * (1 - 1)", "let x = 1 in x + x * 0")
	textFolds(t, "rep 1 + 1 as s from 2 + 2 by s + (3 + 3)", "rep 2 as s from 4 by s + 6")
	textFolds(t, "rep if 1 then 2 else x as s from --3 by not 0", "rep 2 as s from 3 by 1")
	textFolds(t, "let x = let y = 1 + 1 in y in x", "let x = let y = 2 in y in x")
}

func TestFoldFromTheLeavesOn(t *testing.T) {
	textFolds(t, "1 + 2 * 3 - 4", "3")
	textFolds(t, "x + (3 - 5)", "x + -2")
	textFolds(t, "x + 1 + 2", "x + 1 + 2")
	textFolds(t, "x + (1 + 2)", "x + 3")
	textFolds(t, "not (1 = 2) and x", "1 and x")
	textFolds(t, "min(1 + 1, max(x, 2 * 2))", "min(2, max(x, 4))")
	textFolds(t, "abs(2 - 5) * -(1 - 4)", "9")
	foldsTo(t, negs(39, num(7)), negs(1, num(7)))
	foldsTo(t, negs(38, num(7)), num(7))
	foldsTo(t, negs(39, num(0)), num(0))
	foldsTo(t, negs(39, name("x")), negs(39, name("x")))
	foldsTo(t, wide(399), num(200))
	foldsTo(t, negs(1, wide(399)), negs(1, num(200)))
	if l := []impl.Node(nil); len(impl.FoldTree(l)) != 0 {
		t.Error("nothing")
	}
	text := strings.Repeat("1 + (", 38) + "1 + x" + strings.Repeat(")", 38)
	stays(t, text)
}

func TestFoldAgainstModel(t *testing.T) {
	r := rand.New(rand.NewSource(52))
	less := 0
	for i := range 12000 {
		size, deep := 1+r.Intn(30), 1+r.Intn(8)
		if i%40 == 0 {
			size, deep = 1+r.Intn(400), 1+r.Intn(40)
		}
		l := foldable(r, size, deep)
		want := modelFold(l)
		less += oneIf(len(want) < len(l))
		foldsTo(t, l, want)
	}
	if less < 6000 || less > 11900 {
		t.Fatal(less)
	}
}

// foldable is a tree with more numbers than names.
func foldable(r *rand.Rand, size, deep int) []impl.Node {
	l := randomTree(r, size, deep)
	for i := range l {
		if l[i].Kind == impl.NodeName && r.Intn(4) > 0 {
			l[i] = num([]int{0, 0, 1, 2, 7, 1 << 32, greatest, r.Intn(100)}[r.Intn(8)])[0]
		}
	}
	return l
}
