package impl

import (
	"slices"
	"strconv"
	"strings"
)

// Limits of trees.
const (
	TreeMaxNodes = 400
	TreeMaxDeep  = 40
)

// Kinds of nodes.
const (
	NodeNum  = 1
	NodeName = 2
	NodeNeg  = 3
	NodeNot  = 4
	NodeMul  = 5
	NodeDiv  = 6
	NodeMod  = 7
	NodeAdd  = 8
	NodeSub  = 9
	NodeEq   = 10
	NodeNe   = 11
	NodeLt   = 12
	NodeLe   = 13
	NodeGt   = 14
	NodeGe   = 15
	NodeAnd  = 16
	NodeOr   = 17
	NodeMin  = 18
	NodeMax  = 19
	NodeAbs  = 20
	NodeIf   = 21
	NodeLet  = 22
	NodeRep  = 23
)

// Node is a part of a tree, ahead of all that is beneath it.
type Node struct {
	Kind int
	Num  int
	Name string
	Kids int
}

// maxNumber is the greatest number of BodyMaxDigits digits.
const maxNumber = 999999999999999999

// Levels of the grammar, the loosest first.
const (
	levelExpr = iota
	levelOr
	levelAnd
	levelCmp
	levelSum
	levelProd
	levelAhead
	levelAtom
)

// shape is what all nodes of a kind have in common; word is the one by which a reader knows the kind at its level.
type shape struct {
	kids  int
	level int
	word  string
}

var shapes = [...]shape{
	NodeNum:  {0, levelAtom, ""},
	NodeName: {0, levelAtom, ""},
	NodeNeg:  {1, levelAhead, "-"},
	NodeNot:  {1, levelAhead, "not"},
	NodeMul:  {2, levelProd, "*"},
	NodeDiv:  {2, levelProd, "/"},
	NodeMod:  {2, levelProd, "%"},
	NodeAdd:  {2, levelSum, "+"},
	NodeSub:  {2, levelSum, "-"},
	NodeEq:   {2, levelCmp, "="},
	NodeNe:   {2, levelCmp, "!="},
	NodeLt:   {2, levelCmp, "<"},
	NodeLe:   {2, levelCmp, "<="},
	NodeGt:   {2, levelCmp, ">"},
	NodeGe:   {2, levelCmp, ">="},
	NodeAnd:  {2, levelAnd, "and"},
	NodeOr:   {2, levelOr, "or"},
	NodeMin:  {2, levelAtom, "min"},
	NodeMax:  {2, levelAtom, "max"},
	NodeAbs:  {1, levelAtom, "abs"},
	NodeIf:   {3, levelExpr, "if"},
	NodeLet:  {2, levelExpr, "let"},
	NodeRep:  {3, levelExpr, "rep"},
}

// form is a node with all that is beneath it: its own node, and its kids in order.
type form interface {
	node() Node
	parts() []form
}

type numForm struct {
	num int
}

type nameForm struct {
	name string
}

// aheadForm is a sign ahead of its kid.
type aheadForm struct {
	kind int
	a    form
}

// signForm is a sign between two kids.
type signForm struct {
	kind int
	a, b form
}

type callForm struct {
	kind int
	args []form
}

type ifForm struct {
	cond, yes, no form
}

type letForm struct {
	name      string
	val, body form
}

type repForm struct {
	name               string
	times, first, step form
}

func (f numForm) node() Node   { return Node{Kind: NodeNum, Num: f.num} }
func (f nameForm) node() Node  { return Node{Kind: NodeName, Name: f.name} }
func (f aheadForm) node() Node { return Node{Kind: f.kind, Kids: 1} }
func (f signForm) node() Node  { return Node{Kind: f.kind, Kids: 2} }
func (f callForm) node() Node  { return Node{Kind: f.kind, Kids: len(f.args)} }
func (f ifForm) node() Node    { return Node{Kind: NodeIf, Kids: 3} }
func (f letForm) node() Node   { return Node{Kind: NodeLet, Name: f.name, Kids: 2} }
func (f repForm) node() Node   { return Node{Kind: NodeRep, Name: f.name, Kids: 3} }

func (f numForm) parts() []form   { return nil }
func (f nameForm) parts() []form  { return nil }
func (f aheadForm) parts() []form { return []form{f.a} }
func (f signForm) parts() []form  { return []form{f.a, f.b} }
func (f callForm) parts() []form  { return f.args }
func (f ifForm) parts() []form    { return []form{f.cond, f.yes, f.no} }
func (f letForm) parts() []form   { return []form{f.val, f.body} }
func (f repForm) parts() []form   { return []form{f.times, f.first, f.step} }

// formOf puts a node of a known kind over as many kids as that kind has.
func formOf(n Node, kids []form) form {
	switch n.Kind {
	case NodeNum:
		return numForm{num: n.Num}
	case NodeName:
		return nameForm{name: n.Name}
	case NodeNeg, NodeNot:
		return aheadForm{kind: n.Kind, a: kids[0]}
	case NodeMin, NodeMax, NodeAbs:
		return callForm{kind: n.Kind, args: kids}
	case NodeIf:
		return ifForm{cond: kids[0], yes: kids[1], no: kids[2]}
	case NodeLet:
		return letForm{name: n.Name, val: kids[0], body: kids[1]}
	case NodeRep:
		return repForm{name: n.Name, times: kids[0], first: kids[1], step: kids[2]}
	}
	return signForm{kind: n.Kind, a: kids[0], b: kids[1]}
}

func formDeep(f form) int {
	deepest := 0
	for _, kid := range f.parts() {
		deepest = max(deepest, formDeep(kid))
	}
	return deepest + 1
}

func appendNodes(list []Node, f form) []Node {
	list = append(list, f.node())
	for _, kid := range f.parts() {
		list = appendNodes(list, kid)
	}
	return list
}

// treeOf is the form of a tree; false when the nodes are none.
func treeOf(t []Node) (form, bool) {
	if !nodesOk(t) || TreeEnd(t, 0) != len(t) {
		return nil, false
	}
	f, _ := grow(t, 0)
	if formDeep(f) > TreeMaxDeep {
		return nil, false
	}
	return f, true
}

// grow makes the form of the node at a place, and tells the place behind it; all Kids are known to fit.
func grow(t []Node, at int) (form, int) {
	kids := make([]form, t[at].Kids)
	next := at + 1
	for i := range kids {
		kids[i], next = grow(t, next)
	}
	return formOf(t[at], kids), next
}

func nodesOk(t []Node) bool {
	if len(t) > TreeMaxNodes {
		return false
	}
	keys := newKeySet()
	for _, n := range t {
		if !nodeOk(n, keys) {
			return false
		}
	}
	return true
}

// nodeOk looks at a node alone, not at what stands behind it.
func nodeOk(n Node, keys keySet) bool {
	if n.Kind < NodeNum || n.Kind > NodeRep || n.Kids != shapes[n.Kind].kids {
		return false
	}
	switch n.Kind {
	case NodeNum:
		return n.Num >= 0 && n.Num <= maxNumber && n.Name == ""
	case NodeName, NodeLet, NodeRep:
		return n.Num == 0 && keys.isName(n.Name)
	}
	return n.Num == 0 && n.Name == ""
}

// TreeOk tells whether nodes are a tree.
func TreeOk(t []Node) bool {
	_, ok := treeOf(t)
	return ok
}

// TreeEnd is the place behind a node and all that is beneath it.
func TreeEnd(t []Node, at int) int {
	if at < 0 {
		return -1
	}
	missing := 1
	for i := at; i < len(t); i++ {
		if t[i].Kids < 0 || t[i].Kids > len(t) {
			return -1
		}
		missing += t[i].Kids - 1
		if missing == 0 {
			return i + 1
		}
		if missing > len(t) {
			return -1
		}
	}
	return -1
}

// TreeDeep is how deep a tree is.
func TreeDeep(t []Node) int {
	f, ok := treeOf(t)
	if !ok {
		return 0
	}
	return formDeep(f)
}

// TreeRead reads a text.
func TreeRead(text string) ([]Node, Fault) {
	list, err := readTree(text)
	if err != nil {
		return nil, faultOf(err)
	}
	return list, Fault{}
}

// readTree is the one place where a reader that has given up is caught.
func readTree(text string) (list []Node, err error) {
	defer func() {
		switch gone := recover().(type) {
		case nil:
		case placedError:
			list, err = nil, gone
		default:
			panic(gone)
		}
	}()
	words, err := cutWords(text)
	if err != nil {
		return nil, err
	}
	r := reader{words: words, size: len(text)}
	return r.tree(), nil
}

// reader goes through words by the grammar, and gives up by a panic with a placedError.
type reader struct {
	words []Word
	next  int
	size  int
}

// misplaced is what is wrong with the next word; where words lack, with the text's end.
func (r *reader) misplaced() error {
	if r.next == len(r.words) {
		return wrongAt(BodyToken, r.size)
	}
	return wrongAt(BodyToken, r.words[r.next].At)
}

// tree looks at the limits only when all words could stand, as their faults come last.
func (r *reader) tree() []Node {
	f := r.expr()
	if r.next < len(r.words) {
		panic(r.misplaced())
	}
	list := appendNodes(nil, f)
	if len(list) > TreeMaxNodes {
		panic(wrongAt(BodyMany, 0))
	}
	if formDeep(f) > TreeMaxDeep {
		panic(wrongAt(BodyDeep, 0))
	}
	return list
}

func (r *reader) has(word string) bool {
	return r.next < len(r.words) && r.words[r.next].Text == word
}

func (r *reader) nextIs(kind int) bool {
	return r.next < len(r.words) && r.words[r.next].Kind == kind
}

func (r *reader) must(word string) {
	if !r.has(word) {
		panic(r.misplaced())
	}
	r.next++
}

// mustBe takes a word of one kind, and tells its text.
func (r *reader) mustBe(kind int) string {
	if !r.nextIs(kind) {
		panic(r.misplaced())
	}
	r.next++
	return r.words[r.next-1].Text
}

// kindAt takes the next word if it makes a kind of node known at a level; 0 when it does not.
func (r *reader) kindAt(level int) int {
	if r.next == len(r.words) {
		return 0
	}
	word := r.words[r.next].Text
	for kind, s := range shapes {
		if s.level == level && s.word == word {
			r.next++
			return kind
		}
	}
	return 0
}

func (r *reader) expr() form {
	switch r.kindAt(levelExpr) {
	case NodeIf:
		return r.ifRest()
	case NodeLet:
		return r.letRest()
	case NodeRep:
		return r.repRest()
	}
	return r.between(levelOr)
}

func (r *reader) ifRest() form {
	cond := r.expr()
	r.must("then")
	yes := r.expr()
	r.must("else")
	return ifForm{cond: cond, yes: yes, no: r.expr()}
}

func (r *reader) letRest() form {
	name := r.mustBe(WordName)
	r.must("=")
	val := r.expr()
	r.must("in")
	return letForm{name: name, val: val, body: r.expr()}
}

func (r *reader) repRest() form {
	times := r.expr()
	r.must("as")
	name := r.mustBe(WordName)
	r.must("from")
	first := r.expr()
	r.must("by")
	return repForm{name: name, times: times, first: first, step: r.expr()}
}

// between reads signs that stand between kids, from a level on; of comparisons there is at most one.
func (r *reader) between(level int) form {
	if level == levelAhead {
		return r.ahead()
	}
	left := r.between(level + 1)
	for {
		kind := r.kindAt(level)
		if kind == 0 {
			return left
		}
		left = signForm{kind: kind, a: left, b: r.between(level + 1)}
		if level == levelCmp {
			return left
		}
	}
}

func (r *reader) ahead() form {
	kind := r.kindAt(levelAhead)
	if kind == 0 {
		return r.atom()
	}
	return aheadForm{kind: kind, a: r.ahead()}
}

func (r *reader) atom() form {
	if kind := r.kindAt(levelAtom); kind != 0 {
		return r.callRest(kind)
	}
	if r.has("(") {
		r.next++
		inner := r.expr()
		r.must(")")
		return inner
	}
	if r.nextIs(WordNumber) {
		return r.number()
	}
	return nameForm{name: r.mustBe(WordName)}
}

// number asks for no error: words of this kind fit into an int.
func (r *reader) number() form {
	num, _ := strconv.Atoi(r.mustBe(WordNumber))
	return numForm{num: num}
}

func (r *reader) callRest(kind int) form {
	r.must("(")
	args := []form{r.expr()}
	for len(args) < shapes[kind].kids {
		r.must(",")
		args = append(args, r.expr())
	}
	r.must(")")
	return callForm{kind: kind, args: args}
}

// TreeShow writes a tree.
func TreeShow(t []Node) string {
	f, ok := treeOf(t)
	if !ok {
		return ""
	}
	return bareText(f)
}

// textAt puts brackets around what is looser than the place where it stands.
func textAt(f form, level int) string {
	if shapes[f.node().Kind].level < level {
		return "(" + bareText(f) + ")"
	}
	return bareText(f)
}

func bareText(f form) string {
	switch x := f.(type) {
	case numForm:
		return strconv.Itoa(x.num)
	case nameForm:
		return x.name
	case aheadForm:
		return aheadText(x)
	case signForm:
		return signText(x)
	case callForm:
		return callText(x)
	case ifForm:
		return "if " + bareText(x.cond) + " then " + bareText(x.yes) + " else " + bareText(x.no)
	case letForm:
		return "let " + x.name + " = " + bareText(x.val) + " in " + bareText(x.body)
	case repForm:
		return "rep " + bareText(x.times) + " as " + x.name + " from " + bareText(x.first) + " by " + bareText(x.step)
	}
	return ""
}

func aheadText(f aheadForm) string {
	if f.kind == NodeNot {
		return "not " + textAt(f.a, levelAhead)
	}
	return "-" + textAt(f.a, levelAhead)
}

// signText: signs group to the left, so the first kid may be as loose as the sign; but not of a comparison.
func signText(f signForm) string {
	s := shapes[f.kind]
	first := s.level
	if first == levelCmp {
		first++
	}
	return textAt(f.a, first) + " " + s.word + " " + textAt(f.b, s.level+1)
}

func callText(f callForm) string {
	var args []string
	for _, arg := range f.args {
		args = append(args, bareText(arg))
	}
	return shapes[f.kind].word + "(" + strings.Join(args, ", ") + ")"
}

// TreeFree is which names a tree asks for.
func TreeFree(t []Node) []string {
	f, ok := treeOf(t)
	if !ok {
		return nil
	}
	return freeNames(f)
}

func freeNames(f form) []string {
	names := appendFree(nil, f, nil)
	slices.Sort(names)
	return slices.Compact(names)
}

// appendFree puts the names that are asked for beneath f, but for known ones, behind names.
func appendFree(names []string, f form, known []string) []string {
	switch x := f.(type) {
	case nameForm:
		if slices.Contains(known, x.name) {
			return names
		}
		return append(names, x.name)
	case letForm:
		names = appendFree(names, x.val, known)
		return appendFree(names, x.body, slices.Concat(known, []string{x.name}))
	case repForm:
		names = appendFree(names, x.times, known)
		names = appendFree(names, x.first, known)
		return appendFree(names, x.step, slices.Concat(known, []string{x.name}))
	}
	for _, kid := range f.parts() {
		names = appendFree(names, kid, known)
	}
	return names
}
