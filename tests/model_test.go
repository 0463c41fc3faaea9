package tests

import (
	"math/rand"
	"regexp"
	"slices"
	"strconv"
	"strings"

	"loop.example/headrace/impl"
)

// The models say what the document says in another way than the program: words by a regular expression, the first word that cannot stand by the sets of Earley, trees by splitting a list of words at its loosest sign.

var allKeys = []string{"abs", "and", "as", "by", "else", "from", "if", "in", "let", "max", "min", "not", "or", "rep", "then"}

var allSigns = []string{"!=", "<=", ">=", "(", ")", ",", "+", "-", "*", "/", "%", "=", "<", ">"}

const greatest = 999999999999999999

var wordForm = regexp.MustCompile(`^ *(?:([0-9]+)|([a-z][a-z0-9]*)|(!=|<=|>=|[-(),+*/%=<>]))`)

func modelWords(text string) ([]impl.Word, impl.Fault) {
	if len(text) > impl.BodyMaxText {
		return nil, impl.Fault{Code: impl.BodyLong}
	}
	var words []impl.Word
	for at := 0; strings.Trim(text[at:], " ") != ""; {
		m := wordForm.FindStringSubmatchIndex(text[at:])
		if m == nil {
			return nil, impl.Fault{Code: impl.BodyByte, At: at + len(text[at:]) - len(strings.TrimLeft(text[at:], " "))}
		}
		group := 1
		for m[2*group] < 0 {
			group++
		}
		w := impl.Word{Kind: []int{0, impl.WordNumber, impl.WordName, impl.WordSign}[group], Text: text[at+m[2*group] : at+m[2*group+1]], At: at + m[2*group]}
		if group == 1 && (len(w.Text) > 18 || len(w.Text) > 1 && w.Text[0] == '0') {
			return nil, impl.Fault{Code: impl.BodyNumber, At: w.At}
		}
		if group == 2 && len(w.Text) > 8 {
			return nil, impl.Fault{Code: impl.BodyName, At: w.At}
		}
		if slices.Contains(allKeys, w.Text) {
			w.Kind = impl.WordKey
		}
		words = append(words, w)
		at += m[1]
	}
	return words, impl.Fault{}
}

// grammar: the document's rules, braces and options written out; NUMBER and NAME are words of these kinds.
var grammar = map[string][]string{
	"expr":  {"if expr then expr else expr", "let NAME = expr in expr", "rep expr as NAME from expr by expr", "or"},
	"or":    {"and", "or 'or and"},
	"and":   {"cmp", "and 'and cmp"},
	"cmp":   {"sum", "sum = sum", "sum != sum", "sum < sum", "sum <= sum", "sum > sum", "sum >= sum"},
	"sum":   {"prod", "sum + prod", "sum - prod"},
	"prod":  {"ahead", "prod * ahead", "prod / ahead", "prod % ahead"},
	"ahead": {"- ahead", "not ahead", "atom"},
	"atom":  {"NUMBER", "NAME", "( expr )", "abs ( expr )", "min ( expr , expr )", "max ( expr , expr )"},
}

type earleyItem struct {
	rule, body string
	dot, from  int
}

func terminal(w impl.Word) string {
	switch w.Kind {
	case impl.WordNumber:
		return "NUMBER"
	case impl.WordName:
		return "NAME"
	}
	if w.Text == "or" || w.Text == "and" {
		return "'" + w.Text
	}
	return w.Text
}

// closeSet adds all that follows from what a set of Earley holds, and tells whether a whole expr stands in it.
func closeSet(sets [][]earleyItem, at int) bool {
	seen := map[earleyItem]bool{}
	for _, it := range sets[at] {
		seen[it] = true
	}
	add := func(it earleyItem) {
		if !seen[it] {
			seen[it] = true
			sets[at] = append(sets[at], it)
		}
	}
	whole := false
	for i := 0; i < len(sets[at]); i++ {
		it := sets[at][i]
		body := strings.Fields(it.body)
		if it.dot == len(body) {
			whole = whole || it.rule == "expr" && it.from == 0
			for _, up := range sets[it.from] {
				if b := strings.Fields(up.body); up.dot < len(b) && b[up.dot] == it.rule {
					add(earleyItem{up.rule, up.body, up.dot + 1, up.from})
				}
			}
			continue
		}
		for _, b := range grammar[body[it.dot]] {
			add(earleyItem{body[it.dot], b, 0, at})
		}
	}
	return whole
}

// firstBad is the place among words of the first one that cannot stand, how many there are where words lack, -1 where all is well.
func firstBad(words []impl.Word) int {
	sets := make([][]earleyItem, len(words)+1)
	for _, b := range grammar["expr"] {
		sets[0] = append(sets[0], earleyItem{"expr", b, 0, 0})
	}
	whole := closeSet(sets, 0)
	for at, w := range words {
		for _, it := range sets[at] {
			if body := strings.Fields(it.body); it.dot < len(body) && body[it.dot] == terminal(w) {
				sets[at+1] = append(sets[at+1], earleyItem{it.rule, it.body, it.dot + 1, it.from})
			}
		}
		if len(sets[at+1]) == 0 {
			return at
		}
		whole = closeSet(sets, at+1)
	}
	if !whole {
		return len(words)
	}
	return -1
}

// levels: the signs between two, the loosest first.
var levels = []map[string]int{
	{"or": impl.NodeOr},
	{"and": impl.NodeAnd},
	{"=": impl.NodeEq, "!=": impl.NodeNe, "<": impl.NodeLt, "<=": impl.NodeLe, ">": impl.NodeGt, ">=": impl.NodeGe},
	{"+": impl.NodeAdd, "-": impl.NodeSub},
	{"*": impl.NodeMul, "/": impl.NodeDiv, "%": impl.NodeMod},
}

// cutAt is the place of a word outside all brackets and behind as many of them as of open; -1 where there is none.
func cutAt(words []string, word string, open string) int {
	deep, pending := 0, 0
	for i, w := range words {
		switch {
		case w == "(":
			deep++
		case w == ")":
			deep--
		case deep == 0 && w == open:
			pending++
		case deep == 0 && w == word && pending == 0:
			return i
		case deep == 0 && w == word:
			pending--
		}
	}
	return -1
}

// modelTree is the tree of words of which it is known that they are an expr.
func modelTree(words []string) []impl.Node {
	switch words[0] {
	case "if":
		then := cutAt(words[1:], "then", "if") + 1
		other := cutAt(words[then+1:], "else", "if") + then + 1
		return nodesOver(impl.Node{Kind: impl.NodeIf}, words[1:then], words[then+1:other], words[other+1:])
	case "let":
		in := cutAt(words[1:], "in", "let") + 1
		return nodesOver(impl.Node{Kind: impl.NodeLet, Name: words[1]}, words[3:in], words[in+1:])
	case "rep":
		as := cutAt(words[1:], "as", "rep") + 1
		by := cutAt(words[as+3:], "by", "rep") + as + 3
		return nodesOver(impl.Node{Kind: impl.NodeRep, Name: words[as+1]}, words[1:as], words[as+3:by], words[by+1:])
	}
	for _, signs := range levels {
		if at := lastSign(words, signs); at > 0 {
			return nodesOver(impl.Node{Kind: signs[words[at]]}, words[:at], words[at+1:])
		}
	}
	return modelAtom(words)
}

// lastSign is the last place of a sign outside all brackets that stands between two, not ahead of one.
func lastSign(words []string, signs map[string]int) int {
	deep, last := 0, -1
	for i, w := range words {
		switch {
		case w == "(":
			deep++
		case w == ")":
			deep--
		case deep == 0 && i > 0 && signs[w] != 0 && endsSomething(words[i-1]):
			last = i
		}
	}
	return last
}

func endsSomething(word string) bool {
	return word == ")" || !slices.Contains(allKeys, word) && !slices.Contains(allSigns, word)
}

func modelAtom(words []string) []impl.Node {
	switch words[0] {
	case "-":
		return nodesOver(impl.Node{Kind: impl.NodeNeg}, words[1:])
	case "not":
		return nodesOver(impl.Node{Kind: impl.NodeNot}, words[1:])
	case "(":
		return modelTree(words[1 : len(words)-1])
	case "abs":
		return nodesOver(impl.Node{Kind: impl.NodeAbs}, words[2:len(words)-1])
	case "min", "max":
		inner := words[2 : len(words)-1]
		comma := cutAt(inner, ",", "")
		kind := map[string]int{"min": impl.NodeMin, "max": impl.NodeMax}[words[0]]
		return nodesOver(impl.Node{Kind: kind}, inner[:comma], inner[comma+1:])
	}
	if n, err := strconv.Atoi(words[0]); err == nil {
		return []impl.Node{{Kind: impl.NodeNum, Num: n}}
	}
	return []impl.Node{{Kind: impl.NodeName, Name: words[0]}}
}

func nodesOver(n impl.Node, kids ...[]string) []impl.Node {
	n.Kids = len(kids)
	list := []impl.Node{n}
	for _, k := range kids {
		list = append(list, modelTree(k)...)
	}
	return list
}

// over puts a node over kids.
func over(n impl.Node, kids ...[]impl.Node) []impl.Node {
	n.Kids = len(kids)
	return slices.Concat([]impl.Node{n}, slices.Concat(kids...))
}

func num(n int) []impl.Node { return []impl.Node{{Kind: impl.NodeNum, Num: n}} }

func name(s string) []impl.Node { return []impl.Node{{Kind: impl.NodeName, Name: s}} }

func kind(k int, kids ...[]impl.Node) []impl.Node { return over(impl.Node{Kind: k}, kids...) }

func named(k int, s string, kids ...[]impl.Node) []impl.Node {
	return over(impl.Node{Kind: k, Name: s}, kids...)
}

// kidsOf: how many kids a kind has, in the order of the kinds; the first stands for none.
var kidsOf = []int{-1, 0, 0, 1, 1, 2, 2, 2, 2, 2, 2, 2, 2, 2, 2, 2, 2, 2, 2, 2, 1, 3, 2, 3}

// wordOf: the word of a kind's text that is its own, in the order of the kinds.
var wordOf = []string{"", "", "", "-", "not", "*", "/", "%", "+", "-", "=", "!=", "<", "<=", ">", ">=", "and", "or", "min", "max", "abs", "if", "let", "rep"}

// split is the node of a tree and its kids.
func split(t []impl.Node) (impl.Node, [][]impl.Node) {
	var kids [][]impl.Node
	at := 1
	for range t[0].Kids {
		end := at + 1
		for missing := t[at].Kids; missing > 0; end++ {
			missing += t[end].Kids - 1
		}
		kids = append(kids, t[at:end])
		at = end
	}
	return t[0], kids
}

// fullWords are a tree's words with brackets around each node, the whole too.
func fullWords(t []impl.Node) []string {
	n, kids := split(t)
	var k [3][]string
	for i := range kids {
		k[i] = fullWords(kids[i])
	}
	var w []string
	switch n.Kind {
	case impl.NodeNum:
		w = []string{strconv.Itoa(n.Num)}
	case impl.NodeName:
		w = []string{n.Name}
	case impl.NodeNeg, impl.NodeNot:
		w = slices.Concat([]string{wordOf[n.Kind]}, k[0])
	case impl.NodeAbs:
		w = slices.Concat([]string{"abs", "("}, k[0], []string{")"})
	case impl.NodeMin, impl.NodeMax:
		w = slices.Concat([]string{wordOf[n.Kind], "("}, k[0], []string{","}, k[1], []string{")"})
	case impl.NodeIf:
		w = slices.Concat([]string{"if"}, k[0], []string{"then"}, k[1], []string{"else"}, k[2])
	case impl.NodeLet:
		w = slices.Concat([]string{"let", n.Name, "="}, k[0], []string{"in"}, k[1])
	case impl.NodeRep:
		w = slices.Concat([]string{"rep"}, k[0], []string{"as", n.Name, "from"}, k[1], []string{"by"}, k[2])
	default:
		w = slices.Concat(k[0], []string{wordOf[n.Kind]}, k[1])
	}
	return slices.Concat([]string{"("}, w, []string{")"})
}

// pair is where two brackets that belong together stand among words.
type pair struct{ open, shut int }

// pairs are all brackets of words but those of calls, the inner ones first.
func pairs(words []string) []pair {
	var out []pair
	var opened []int
	for i, w := range words {
		if w == "(" {
			opened = append(opened, i)
		}
		if w == ")" {
			open := opened[len(opened)-1]
			opened = opened[:len(opened)-1]
			if open == 0 || !slices.Contains([]string{"abs", "min", "max"}, words[open-1]) {
				out = append(out, pair{open, i})
			}
		}
	}
	return out
}

func without(words []string, p pair) []string {
	return slices.Concat(words[:p.open], words[p.open+1:p.shut], words[p.shut+1:])
}

// wordsOf makes words of texts, as if each stood behind one blank.
func wordsOf(texts []string) []impl.Word {
	words, _ := modelWords(strings.Join(texts, " "))
	return words
}

func reads(words []string, t []impl.Node) bool {
	return firstBad(wordsOf(words)) == -1 && slices.Equal(modelTree(words), t)
}

// fewest leaves out one pair of brackets after the other without which the same tree is read.
func fewest(t []impl.Node) []string {
	words := fullWords(t)
again:
	for _, p := range pairs(words) {
		if less := without(words, p); reads(less, t) {
			words = less
			goto again
		}
	}
	return words
}

// spaced puts words together with the blanks that the table of nodes has.
func spaced(words []string) string {
	text := ""
	for i, w := range words {
		if i > 0 && blankBetween(words, i) {
			text += " "
		}
		text += w
	}
	return text
}

func blankBetween(words []string, at int) bool {
	last := words[at-1]
	switch {
	case words[at] == ")" || words[at] == "," || last == "(":
		return false
	case words[at] == "(" && slices.Contains([]string{"abs", "min", "max"}, last):
		return false
	case last == "-" && (at == 1 || !endsSomething(words[at-2])):
		return false
	}
	return true
}

var someNames = []string{"a", "b", "x", "y", "z1", "abcdefgh", "i", "ab", "iff", "nott"}

var someNums = []int{0, 1, 2, 9, 10, 64, 1000000, greatest}

// randomTree has at most size nodes and is at most deep deep (both at least 1).
func randomTree(r *rand.Rand, size, deep int) []impl.Node {
	k := 1 + r.Intn(23)
	for size < kidsOf[k]+1 || deep == 1 && kidsOf[k] > 0 || kidsOf[k] == 0 && size > 3 && deep > 1 && r.Intn(4) > 0 {
		k = 1 + r.Intn(23)
	}
	n := impl.Node{Kind: k, Kids: kidsOf[k]}
	switch k {
	case impl.NodeNum:
		n.Num = someNums[r.Intn(len(someNums))]
	case impl.NodeName, impl.NodeLet, impl.NodeRep:
		n.Name = someNames[r.Intn(len(someNames))]
	}
	list := []impl.Node{n}
	left := size - 1
	for i := range n.Kids {
		others := n.Kids - i - 1
		most := left - others
		if others > 0 {
			most = 1 + r.Intn(most)
		}
		kid := randomTree(r, most, deep-1)
		left -= len(kid)
		list = append(list, kid...)
	}
	return list
}

// modelDeep is how deep a tree is, and where it ends; it goes by the document's words for trees alone, 0 where there is none.
func modelDeep(t []impl.Node, at int) (int, int) {
	if at >= len(t) {
		return 0, 0
	}
	n := t[at]
	if n.Kind < 1 || n.Kind > 23 || n.Kids != kidsOf[n.Kind] || !modelFields(n) {
		return 0, 0
	}
	deepest, next := 0, at+1
	for range n.Kids {
		var deep int
		if deep, next = modelDeep(t, next); deep == 0 {
			return 0, 0
		}
		deepest = max(deepest, deep)
	}
	return deepest + 1, next
}

var nameForm = regexp.MustCompile(`^[a-z][a-z0-9]{0,7}$`)

func modelFields(n impl.Node) bool {
	switch n.Kind {
	case impl.NodeNum:
		return 0 <= n.Num && n.Num <= greatest && n.Name == ""
	case impl.NodeName, impl.NodeLet, impl.NodeRep:
		return n.Num == 0 && nameForm.MatchString(n.Name) && !slices.Contains(allKeys, n.Name)
	}
	return n.Num == 0 && n.Name == ""
}

// modelFree tells the names that a tree asks for.
func modelFree(t []impl.Node, known []string, free map[string]bool) {
	n, kids := split(t)
	if n.Kind == impl.NodeName && !slices.Contains(known, n.Name) {
		free[n.Name] = true
	}
	for i, kid := range kids {
		inner := known
		if n.Kind == impl.NodeLet && i == 1 || n.Kind == impl.NodeRep && i == 2 {
			inner = slices.Concat(known, []string{n.Name})
		}
		modelFree(kid, inner, free)
	}
}
