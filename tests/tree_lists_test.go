package tests

import (
	"math"
	"math/rand"
	"slices"
	"sort"
	"strings"
	"testing"

	"loop.example/headrace/impl"
)

func noTree(t *testing.T, why string, l []impl.Node) {
	t.Helper()
	if impl.TreeOk(l) || impl.TreeDeep(l) != 0 || impl.TreeShow(l) != "" || len(impl.TreeFree(l)) != 0 {
		t.Fatalf("%s: %v %d %q %v", why, impl.TreeOk(l), impl.TreeDeep(l), impl.TreeShow(l), impl.TreeFree(l))
	}
}

func isTree(t *testing.T, why string, l []impl.Node, deep int) {
	t.Helper()
	if !impl.TreeOk(l) || impl.TreeDeep(l) != deep || impl.TreeShow(l) == "" || impl.TreeEnd(l, 0) != len(l) {
		t.Fatalf("%s: %v %d %q %d", why, impl.TreeOk(l), impl.TreeDeep(l), impl.TreeShow(l), impl.TreeEnd(l, 0))
	}
}

// sample is a tree of a kind over plain kids.
func sample(k int, kids ...[]impl.Node) []impl.Node {
	n := impl.Node{Kind: k}
	switch k {
	case impl.NodeNum:
		n.Num = 7
	case impl.NodeName:
		n.Name = "n"
	case impl.NodeLet, impl.NodeRep:
		n.Name = "v"
	}
	for len(kids) < kidsOf[k] {
		kids = append(kids, name(string("pqr"[len(kids)])))
	}
	return over(n, kids...)
}

func negs(n int, over []impl.Node) []impl.Node {
	for range n {
		over = kind(impl.NodeNeg, over)
	}
	return over
}

// wide is a tree of so many nodes (odd) that is as shallow as can be.
func wide(nodes int) []impl.Node {
	if nodes == 1 {
		return num(1)
	}
	first := nodes / 2
	if first%2 == 0 {
		first--
	}
	return kind(impl.NodeAdd, wide(first), wide(nodes-1-first))
}

func TestTreesOfEachKind(t *testing.T) {
	for k := impl.NodeNum; k <= impl.NodeRep; k++ {
		deep := 1
		if kidsOf[k] > 0 {
			deep = 2
		}
		isTree(t, wordOf[k], sample(k), deep)
	}
}

func TestTreeLimits(t *testing.T) {
	isTree(t, "39 over one", negs(39, num(1)), 40)
	noTree(t, "40 over one", negs(40, num(1)))
	noTree(t, "399 over one", negs(399, num(1)))
	isTree(t, "deep on the right", kind(impl.NodeAdd, num(1), negs(38, num(1))), 40)
	noTree(t, "too deep on the right", kind(impl.NodeAdd, num(1), negs(39, num(1))))
	noTree(t, "too deep in the last of three", sample(impl.NodeIf, num(1), num(2), negs(39, num(1))))
	isTree(t, "399 nodes", wide(399), impl.TreeDeep(wide(399)))
	isTree(t, "400 nodes", negs(1, wide(399)), 1+impl.TreeDeep(wide(399)))
	noTree(t, "401 nodes", wide(401))
	noTree(t, "401 nodes and deep", negs(40, wide(361)))
	noTree(t, "very many nodes", make([]impl.Node, 100000))
	isTree(t, "the least number", num(0), 1)
	isTree(t, "the greatest number", num(greatest), 1)
	noTree(t, "one more", num(greatest+1))
	noTree(t, "one less", num(-1))
	noTree(t, "far off", num(math.MinInt))
	noTree(t, "far off", num(math.MaxInt))
}

func TestListsThatAreNoTrees(t *testing.T) {
	noTree(t, "nil", nil)
	noTree(t, "empty", []impl.Node{})
	noTree(t, "a node of nothing", []impl.Node{{}})
	for _, k := range []int{0, -1, 24, 25, 99, 255, 256, math.MinInt, math.MaxInt} {
		for kids := range 4 {
			l := kind(k, [][]impl.Node{num(1), num(2), num(3)}[:kids]...)
			noTree(t, "unknown kind", l)
			noTree(t, "unknown kind beneath", kind(impl.NodeNeg, l))
		}
	}
	for k := impl.NodeNum; k <= impl.NodeRep; k++ {
		good := sample(k)
		change := func(why string, how func(n *impl.Node)) {
			t.Helper()
			bad := slices.Clone(good)
			how(&bad[0])
			noTree(t, why, bad)
			noTree(t, why+" beneath", slices.Concat([]impl.Node{{Kind: impl.NodeNot, Kids: 1}}, bad))
		}
		for _, kids := range []int{-1, kidsOf[k] - 1, kidsOf[k] + 1, len(good), 400, math.MaxInt, math.MinInt} {
			if kids != kidsOf[k] {
				change("wrong kids", func(n *impl.Node) { n.Kids = kids })
			}
		}
		if k != impl.NodeNum {
			for _, v := range []int{1, -1, math.MinInt, math.MaxInt} {
				change("a number where none is told", func(n *impl.Node) { n.Num = v })
			}
		}
		if k != impl.NodeName && k != impl.NodeLet && k != impl.NodeRep {
			change("a name where none is told", func(n *impl.Node) { n.Name = "x" })
			continue
		}
		for _, s := range append([]string{"", "A", "1a", "abcdefghi", "a b", "a-b", "ä", "a\xff", " a", "a "}, allKeys...) {
			change("no name", func(n *impl.Node) { n.Name = s })
		}
	}
}

func TestNodesLeftAndNodesThatLack(t *testing.T) {
	for k := impl.NodeNum; k <= impl.NodeRep; k++ {
		good := sample(k)
		noTree(t, "one left", slices.Concat(good, num(1)))
		noTree(t, "two trees", slices.Concat(good, good))
		for cut := range good {
			noTree(t, "cut", good[:cut])
		}
		if kidsOf[k] > 0 {
			more := sample(k, name("p"), name("q"), name("r"), name("s"))
			noTree(t, "a kid too many", more)
			fewer := slices.Clone(good[:len(good)-1])
			fewer[0].Kids--
			noTree(t, "a kid too few", fewer)
		}
	}
}

func TestTreesAgainstModel(t *testing.T) {
	r := rand.New(rand.NewSource(2))
	var well, none int
	for range 30000 {
		l := randomTree(r, 1+r.Intn(30), 1+r.Intn(8))
		for range r.Intn(3) {
			i := r.Intn(len(l))
			switch r.Intn(6) {
			case 0:
				l[i].Kids += r.Intn(3) - 1
			case 1:
				l[i].Kind = r.Intn(26) - 1
			case 2:
				l[i].Num = []int{0, 1, -1, greatest, greatest + 1}[r.Intn(5)]
			case 3:
				l[i].Name = []string{"", "a", "or", "abcdefgh", "abcdefghi"}[r.Intn(5)]
			case 4:
				l = slices.Insert(slices.Clone(l), i, num(1)[0])
			case 5:
				l = slices.Delete(slices.Clone(l), i, i+1)
			}
			if len(l) == 0 {
				break
			}
		}
		deep, end := modelDeep(l, 0)
		if deep > 0 && end == len(l) {
			well++
			isTree(t, "by the model", l, deep)
		} else {
			none++
			noTree(t, "by the model", l)
		}
	}
	if well < 1000 || none < 1000 {
		t.Fatal(well, none)
	}
}

func modelEnd(l []impl.Node, at int) int {
	if at < 0 || at >= len(l) || l[at].Kids < 0 || l[at].Kids > len(l) {
		return -1
	}
	next := at + 1
	for range l[at].Kids {
		if next = modelEnd(l, next); next == -1 {
			return -1
		}
	}
	return next
}

func TestEndsGoByKidsAlone(t *testing.T) {
	odd := []impl.Node{{Kind: 99, Num: -5, Name: "?", Kids: 2}, {Kids: 0}, {Kind: -1, Kids: 1}, {}, {Kids: 7}, {Kids: -1}, {}}
	for at, want := range []int{4, 2, 4, 4, -1, -1, 7} {
		if got := impl.TreeEnd(odd, at); got != want {
			t.Errorf("at %d: %d, not %d", at, got, want)
		}
	}
	for _, at := range []int{-1, 7, 8, math.MinInt, math.MaxInt} {
		if impl.TreeEnd(odd, at) != -1 {
			t.Errorf("%d is no place", at)
		}
	}
	for _, kids := range []int{-1, math.MinInt, 4, math.MaxInt} {
		for where := range 3 {
			l := []impl.Node{{Kids: 1}, {Kids: 1}, {}}
			l[where].Kids = kids
			if impl.TreeEnd(l, 0) != -1 {
				t.Errorf("Kids %d at %d", kids, where)
			}
		}
	}
	if impl.TreeEnd(nil, 0) != -1 || impl.TreeEnd(nil, -1) != -1 || impl.TreeEnd([]impl.Node{}, 0) != -1 {
		t.Error("an empty list has no place")
	}
	if impl.TreeEnd([]impl.Node{{}, {Kids: -1}}, 0) != 1 {
		t.Error("what stands behind the end does not count")
	}
	if impl.TreeEnd([]impl.Node{{Kids: math.MaxInt}, {}}, 1) != 2 {
		t.Error("what stands ahead does not count")
	}
	if impl.TreeEnd([]impl.Node{{Kids: 2}, {}}, 0) != -1 || impl.TreeEnd([]impl.Node{{Kids: 1}}, 0) != -1 {
		t.Error("the list ends within")
	}
}

func TestEndsOfLongLists(t *testing.T) {
	long := make([]impl.Node, 300000)
	if impl.TreeEnd(long, 299999) != 300000 || impl.TreeEnd(long, 0) != 1 {
		t.Error("a list may be long")
	}
	for i := range long {
		long[i].Kids = 1
	}
	if impl.TreeEnd(long, 0) != -1 {
		t.Error("a chain without end")
	}
	long[299999].Kids = 0
	if impl.TreeEnd(long, 0) != 300000 || impl.TreeEnd(long, 1234) != 300000 {
		t.Error("a chain with an end")
	}
	for i := range long {
		long[i].Kids = len(long)
	}
	if impl.TreeEnd(long, 0) != -1 {
		t.Error("far too many")
	}
}

func TestEndsAgainstModel(t *testing.T) {
	r := rand.New(rand.NewSource(3))
	for range 30000 {
		l := make([]impl.Node, r.Intn(9))
		for i := range l {
			l[i] = impl.Node{Kind: r.Intn(30), Kids: []int{0, 0, 0, 1, 1, 2, 3, -1, len(l), len(l) + 1}[r.Intn(10)]}
		}
		for at := -2; at < len(l)+2; at++ {
			if got, want := impl.TreeEnd(l, at), modelEnd(l, at); got != want {
				t.Fatalf("%v at %d: %d, not %d", l, at, got, want)
			}
		}
	}
}

func TestFreeNames(t *testing.T) {
	for _, c := range []struct{ text, want string }{
		{"1", ""}, {"x", "x"}, {"b + a + b", "a b"}, {"z * (y - x)", "x y z"}, {"if c then b else a", "a b c"},
		{"let x = x in x", "x"}, {"let x = 1 in x", ""}, {"let x = y in x + z", "y z"}, {"let x = 1 in let x = x in x", ""},
		{"(let x = 1 in x) + x", "x"}, {"let x = (let x = 2 in x) + x in x", "x"}, {"let x = 1 in let y = x in x + y", ""},
		{"rep x as x from 0 by x", "x"}, {"rep 3 as x from x by x", "x"}, {"rep 3 as x from 0 by x + y", "y"}, {"rep y as x from z by x", "y z"},
		{"(rep 3 as x from 0 by x) + x", "x"}, {"rep 2 as i from 0 by rep i as j from i by i + j + k", "k"},
		{"let x = 1 in rep x as y from x by let z = y in x + y + z", ""},
		{"let x = 1 in (let y = 2 in x) + y", "y"}, {"min(a, max(b, abs(c)))", "a b c"}, {"a1 + a + a10 + a2 + ab", "a a1 a10 a2 ab"}, {"-q", "q"}, {"not q and p or r", "p q r"},
	} {
		l, f := impl.TreeRead(c.text)
		if f.Code != 0 {
			t.Fatal(c.text, f)
		}
		if got := strings.Join(impl.TreeFree(l), " "); got != c.want {
			t.Errorf("%q: %q, not %q", c.text, got, c.want)
		}
	}
}

func TestFreeNamesAgainstModel(t *testing.T) {
	r := rand.New(rand.NewSource(4))
	for range 20000 {
		l := randomTree(r, 1+r.Intn(40), 1+r.Intn(9))
		free := map[string]bool{}
		modelFree(l, nil, free)
		var want []string
		for s := range free {
			want = append(want, s)
		}
		sort.Strings(want)
		if got := impl.TreeFree(l); !slices.Equal(got, want) {
			t.Fatalf("%q: %q, not %q", impl.TreeShow(l), got, want)
		}
	}
}
