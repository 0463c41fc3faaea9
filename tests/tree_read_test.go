package tests

import (
	"math/rand"
	"slices"
	"strings"
	"testing"

	"loop.example/headrace/impl"
)

func readsAs(t *testing.T, text string, want []impl.Node) {
	t.Helper()
	got, f := impl.TreeRead(text)
	if f != (impl.Fault{}) || !slices.Equal(got, want) {
		t.Fatalf("%.80q: %v %v, not %v", text, got, f, want)
	}
}

func wrongTree(t *testing.T, text string, code, at int) {
	t.Helper()
	got, f := impl.TreeRead(text)
	if len(got) != 0 || f.Code != code || f.At != at {
		t.Fatalf("%.80q: %v %v, not %d at %d", text, got, f, code, at)
	}
}

func TestReadEachForm(t *testing.T) {
	a, b, c := name("a"), name("b"), name("c")
	readsAs(t, "0", num(0))
	readsAs(t, "999999999999999999", num(greatest))
	readsAs(t, "abcdefgh", name("abcdefgh"))
	readsAs(t, "-a", kind(impl.NodeNeg, a))
	readsAs(t, "- 1", kind(impl.NodeNeg, num(1)))
	readsAs(t, "not a", kind(impl.NodeNot, a))
	for k := impl.NodeMul; k <= impl.NodeOr; k++ {
		readsAs(t, "a "+wordOf[k]+" b", kind(k, a, b))
	}
	readsAs(t, "min(a,b)", kind(impl.NodeMin, a, b))
	readsAs(t, "max ( a , b )", kind(impl.NodeMax, a, b))
	readsAs(t, "abs(a)", kind(impl.NodeAbs, a))
	readsAs(t, "if a then b else c", kind(impl.NodeIf, a, b, c))
	readsAs(t, "let x=a in b", named(impl.NodeLet, "x", a, b))
	readsAs(t, "rep a as x from b by c", named(impl.NodeRep, "x", a, b, c))
	readsAs(t, "((a))", a)
}

func TestReadGroups(t *testing.T) {
	a, b, c := name("a"), name("b"), name("c")
	for k := impl.NodeMul; k <= impl.NodeOr; k++ {
		for j := impl.NodeMul; j <= impl.NodeOr; j++ {
			text := "a " + wordOf[k] + " b " + wordOf[j] + " c"
			switch looseness := "5554433333321"; {
			case looseness[k-impl.NodeMul] < looseness[j-impl.NodeMul]:
				readsAs(t, text, kind(k, a, kind(j, b, c)))
			case looseness[k-impl.NodeMul] == '3' && looseness[j-impl.NodeMul] == '3':
				wrongTree(t, text, impl.BodyToken, 5+len(wordOf[k]))
			default:
				readsAs(t, text, kind(j, kind(k, a, b), c))
			}
		}
		readsAs(t, "-a "+wordOf[k]+" not b", kind(k, kind(impl.NodeNeg, a), kind(impl.NodeNot, b)))
	}
	readsAs(t, "--a", kind(impl.NodeNeg, kind(impl.NodeNeg, a)))
	readsAs(t, "not-not a", kind(impl.NodeNot, kind(impl.NodeNeg, kind(impl.NodeNot, a))))
	readsAs(t, "a--b", kind(impl.NodeSub, a, kind(impl.NodeNeg, b)))
	readsAs(t, "if a then b else c+1", kind(impl.NodeIf, a, b, kind(impl.NodeAdd, c, num(1))))
	readsAs(t, "let x = a = b in c or x", named(impl.NodeLet, "x", kind(impl.NodeEq, a, b), kind(impl.NodeOr, c, name("x"))))
	readsAs(t, "if if a then b else c then a else if a then b else c", kind(impl.NodeIf, kind(impl.NodeIf, a, b, c), a, kind(impl.NodeIf, a, b, c)))
}

func TestOneComparisonAlone(t *testing.T) {
	a, b, c := name("a"), name("b"), name("c")
	for k := impl.NodeEq; k <= impl.NodeGe; k++ {
		for j := impl.NodeEq; j <= impl.NodeGe; j++ {
			first, second := wordOf[k], wordOf[j]
			wrongTree(t, "a "+first+" b "+second+" c", impl.BodyToken, 5+len(first))
			wrongTree(t, "a "+first+" b "+second+" )", impl.BodyToken, 5+len(first))
			wrongTree(t, "(a "+first+" b "+second+" c)", impl.BodyToken, 6+len(first))
			wrongTree(t, "a and b "+first+" c "+second+" a", impl.BodyToken, 11+len(first))
			readsAs(t, "(a "+first+" b) "+second+" c", kind(j, kind(k, a, b), c))
			readsAs(t, "a "+first+" (b "+second+" c)", kind(k, a, kind(j, b, c)))
			readsAs(t, "a "+first+" b and b "+second+" c", kind(impl.NodeAnd, kind(k, a, b), kind(j, b, c)))
		}
	}
}

func TestWordsThatCannotStand(t *testing.T) {
	for _, c := range []struct {
		text string
		at   int
	}{
		{"", 0}, {"   ", 3}, {"1 +", 3}, {"1 + ", 4}, {"(", 1}, {"((a)", 4}, {")", 0}, {"a)", 1}, {"()", 1}, {"a b", 2}, {"1 2", 2}, {"a 1", 2}, {"(a)b", 3}, {"(a)(b)", 3}, {"a(b)", 1},
		{"+ a", 0}, {"* a", 0}, {"a * / b", 4}, {"a + + b", 4}, {"a and or b", 6}, {"a not b", 2}, {"a - not", 7}, {"not", 3}, {"-", 1}, {"= a", 0}, {"a =", 3}, {"a < = b", 4}, {",", 0}, {"a, b", 1}, {"(a, b)", 2},
		{"min", 3}, {"min a", 4}, {"min(", 4}, {"min(a", 5}, {"min(a)", 5}, {"min(a,", 6}, {"min(a,)", 6}, {"min(a, b", 8}, {"min(a, b,", 8}, {"min(a, b, c)", 8}, {"max(a b)", 6}, {"max()", 4}, {"abs", 3}, {"abs()", 4}, {"abs(a, b)", 5}, {"abs -1", 4}, {"min + 1", 4},
		{"if", 2}, {"if a", 4}, {"if a else b", 5}, {"if a then", 9}, {"if a then b", 11}, {"if a then b then c", 12}, {"if a then b else", 16}, {"if then", 3}, {"if a then b else c else d", 19}, {"a if", 2}, {"1 + if a then b else c", 4}, {"not if a then b else c", 4}, {"if a then b else c then", 19},
		{"let", 3}, {"let 1", 4}, {"let in", 4}, {"let (x) = 1 in x", 4}, {"let x", 5}, {"let x 1", 6}, {"let x != 1 in x", 6}, {"let x =", 7}, {"let x = 1", 9}, {"let x = 1 x", 10}, {"let x = 1 in", 12}, {"let x = 1 in in", 13}, {"1 * let x = 1 in x", 4},
		{"rep", 3}, {"rep 3", 5}, {"rep 3 from", 6}, {"rep 3 as", 8}, {"rep 3 as 1", 9}, {"rep 3 as by", 9}, {"rep 3 as x", 10}, {"rep 3 as x by 1", 11}, {"rep 3 as x from", 15}, {"rep 3 as x from 0", 17}, {"rep 3 as x from 0 from 1", 18}, {"rep 3 as x from 0 by", 20}, {"rep 3 as x from 0 by x by", 23}, {"-rep 3 as x from 0 by x", 1},
		{"then", 0}, {"else", 0}, {"in", 0}, {"as", 0}, {"from", 0}, {"by", 0}, {"and", 0}, {"or a", 0},
	} {
		wrongTree(t, c.text, impl.BodyToken, c.at)
	}
}

func TestFaultsOfTreesInOrder(t *testing.T) {
	wrongTree(t, strings.Repeat(" ", 1501), impl.BodyLong, 0)
	wrongTree(t, strings.Repeat(")", 1501), impl.BodyLong, 0)
	wrongTree(t, strings.Repeat(" ", 1500), impl.BodyToken, 1500)
	wrongTree(t, ") _", impl.BodyByte, 2)
	wrongTree(t, ") 01", impl.BodyNumber, 2)
	wrongTree(t, ") abcdefghi", impl.BodyName, 2)
	wrongTree(t, "a b !", impl.BodyByte, 4)
	many := strings.Repeat("a+", 300)
	wrongTree(t, many, impl.BodyToken, 600)
	wrongTree(t, many+"a)", impl.BodyToken, 601)
	wrongTree(t, many+"a", impl.BodyMany, 0)
	wrongTree(t, strings.Repeat("-", 400)+"a", impl.BodyMany, 0)
	wrongTree(t, strings.Repeat("-", 399)+"a", impl.BodyDeep, 0)
	wrongTree(t, strings.Repeat("-", 40), impl.BodyToken, 40)
	wrongTree(t, strings.Repeat("-", 40)+"a b", impl.BodyToken, 42)
	wrongTree(t, strings.Repeat("-", 1500), impl.BodyToken, 1500)
	wrongTree(t, strings.Repeat("(", 1500), impl.BodyToken, 1500)
	wrongTree(t, strings.Repeat("(", 750)+strings.Repeat(")", 750), impl.BodyToken, 750)
}

func TestLimitsOfReading(t *testing.T) {
	readsAs(t, strings.Repeat("-", 39)+"1", negs(39, num(1)))
	wrongTree(t, strings.Repeat("-", 40)+"1", impl.BodyDeep, 0)
	sum := func(n int) string { return strings.Repeat("1+", n-1) + "1" }
	if l, f := impl.TreeRead(sum(40)); f.Code != 0 || impl.TreeDeep(l) != 40 || len(l) != 79 {
		t.Fatal(f, len(l))
	}
	wrongTree(t, sum(41), impl.BodyDeep, 0)
	wrongTree(t, sum(200), impl.BodyDeep, 0)
	wrongTree(t, sum(201), impl.BodyMany, 0)
	brackets := strings.Repeat("(", 749) + "10" + strings.Repeat(")", 749)
	readsAs(t, brackets, num(10))
	wrongTree(t, brackets+" ", impl.BodyLong, 0)
	readsAs(t, strings.Repeat(" ", 1499)+"x", name("x"))
	readsAs(t, "x"+strings.Repeat(" ", 1499), name("x"))

	for _, c := range []struct {
		tree []impl.Node
		code int
	}{{wide(399), 0}, {negs(1, wide(399)), 0}, {wide(401), impl.BodyMany}, {negs(2, wide(399)), impl.BodyMany}} {
		text := strings.ReplaceAll(spaced(fewest399(c.tree)), " ", "")
		got, f := impl.TreeRead(text)
		if f.Code != c.code || f.At != 0 || c.code == 0 && !slices.Equal(got, c.tree) || c.code != 0 && len(got) != 0 {
			t.Fatalf("%d nodes, %d bytes: %v", len(c.tree), len(text), f)
		}
	}
}

// fewest399 writes sums and signs ahead with no more brackets than they need; it is quick where fewest is not.
func fewest399(l []impl.Node) []string {
	n, kids := split(l)
	if n.Kind == impl.NodeNum {
		return []string{"1"}
	}
	bracketed := func(kid []impl.Node) []string {
		if kid[0].Kind == impl.NodeAdd {
			return slices.Concat([]string{"("}, fewest399(kid), []string{")"})
		}
		return fewest399(kid)
	}
	if n.Kind == impl.NodeNeg {
		return slices.Concat([]string{"-"}, bracketed(kids[0]))
	}
	return slices.Concat(fewest399(kids[0]), []string{"+"}, bracketed(kids[1]))
}

// sameReading holds a text against the models: the first fault in the order of the codes, or the tree.
func sameReading(t *testing.T, text string) bool {
	t.Helper()
	words, f := modelWords(text)
	if f.Code != 0 {
		wrongTree(t, text, f.Code, f.At)
		return false
	}
	if bad := firstBad(words); bad >= 0 {
		at := len(text)
		if bad < len(words) {
			at = words[bad].At
		}
		wrongTree(t, text, impl.BodyToken, at)
		return false
	}
	var texts []string
	for _, w := range words {
		texts = append(texts, w.Text)
	}
	readsAs(t, text, modelTree(texts))
	return true
}

func TestReadAllShortTexts(t *testing.T) {
	words := slices.Concat(allKeys, allSigns, []string{"x", "1"})
	read := 0
	for _, a := range words {
		for _, b := range words {
			for _, c := range words {
				if sameReading(t, a+" "+b+" "+c) {
					read++
				}
			}
		}
	}
	if read == 0 {
		t.Fatal("none is read")
	}
}

func TestReadRandomTexts(t *testing.T) {
	r := rand.New(rand.NewSource(5))
	words := slices.Concat(allKeys, allSigns, []string{"x", "y", "1", "20"})
	read, refused := 0, 0
	for range 12000 {
		texts := fullWords(randomTree(r, 1+r.Intn(9), 1+r.Intn(5)))
		for _, p := range slices.Backward(pairs(texts)) {
			if r.Intn(2) == 0 {
				texts[p.open], texts[p.shut] = "", ""
			}
		}
		texts = slices.DeleteFunc(texts, func(s string) bool { return s == "" })
		for range r.Intn(3) {
			i := r.Intn(len(texts))
			switch r.Intn(4) {
			case 0:
				texts = texts[:i+1]
			case 1:
				texts[i] = words[r.Intn(len(words))]
			case 2:
				texts = slices.Insert(texts, i, words[r.Intn(len(words))])
			case 3:
				texts[i] = []string{"", "_", "00", "abcdefghi", "!", "\xff"}[r.Intn(6)]
			}
		}
		if sameReading(t, strings.Join(texts, strings.Repeat(" ", 1+r.Intn(2)))) {
			read++
		} else {
			refused++
		}
	}
	if read < 1000 || refused < 1000 {
		t.Fatal(read, refused)
	}
}

func TestReadAnyBytes(t *testing.T) {
	r := rand.New(rand.NewSource(6))
	for range 20000 {
		b := make([]byte, r.Intn(12))
		for i := range b {
			b[i] = byte(r.Intn(256))
			if r.Intn(3) > 0 {
				b[i] = "a1 +-(=)"[r.Intn(8)]
			}
		}
		sameReading(t, string(b))
	}
}
