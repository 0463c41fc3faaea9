package tests

import (
	"fmt"
	"slices"
	"strconv"
	"strings"

	"loop.example/headrace/impl"
)

// The models of code: the code of a node by a pattern of lines with marks, which are put in for places when all lines stand; a machine that goes by lines, and knows ahead of each how many numbers it takes and gives.

var plainOps = map[string]int{"tick": impl.InsTick, "bool": impl.InsBool, "times": impl.InsTimes}

var numberOps = map[string]int{"push": impl.InsPush, "get": impl.InsGet, "put": impl.InsPut, "jump": impl.InsJump, "zero": impl.InsZero}

var signOps = map[string]impl.Ins{
	"neg": {Op: 6, A: 3}, "not": {Op: 6, A: 4}, "abs": {Op: 6, A: 20},
	"mul": {Op: 7, A: 5}, "div": {Op: 7, A: 6}, "mod": {Op: 7, A: 7}, "add": {Op: 7, A: 8}, "sub": {Op: 7, A: 9},
	"eq": {Op: 7, A: 10}, "ne": {Op: 7, A: 11}, "lt": {Op: 7, A: 12}, "le": {Op: 7, A: 13}, "gt": {Op: 7, A: 14}, "ge": {Op: 7, A: 15},
	"min": {Op: 7, A: 18}, "max": {Op: 7, A: 19},
}

// insOf is the instruction of a line.
func insOf(line string) (impl.Ins, error) {
	word, rest, more := strings.Cut(line, " ")
	if op, ok := plainOps[word]; ok && !more {
		return impl.Ins{Op: op}, nil
	}
	if ins, ok := signOps[word]; ok && !more {
		return ins, nil
	}
	if word == "load" && nameForm.MatchString(rest) {
		return impl.Ins{Op: impl.InsLoad, Name: rest}, nil
	}
	op, ok := numberOps[word]
	n, err := strconv.Atoi(rest)
	if !ok || err != nil || strconv.Itoa(n) != rest {
		return impl.Ins{}, fmt.Errorf("%q is no line", line)
	}
	return impl.Ins{Op: op, A: n}, nil
}

func insOfLines(lines []string) []impl.Ins {
	var c []impl.Ins
	for _, line := range lines {
		ins, err := insOf(line)
		if err != nil {
			panic(err)
		}
		c = append(c, ins)
	}
	return c
}

// placed puts the places for marks: a line "m:" is none, but makes the place behind it known as m.
func placed(marked []string) []string {
	places := map[string]int{}
	var lines []string
	for _, line := range marked {
		if mark, ok := strings.CutSuffix(line, ":"); ok {
			places[mark] = len(lines)
		} else {
			lines = append(lines, line)
		}
	}
	for i, line := range lines {
		word, mark, _ := strings.Cut(line, " ")
		if place, ok := places[mark]; ok && (word == "jump" || word == "zero") {
			lines[i] = word + " " + strconv.Itoa(place)
		}
	}
	return lines
}

// cut is a text's lines, which stand behind each other.
func cut(text string) []string {
	var lines []string
	for _, line := range strings.Split(text, ";") {
		if line = strings.TrimSpace(line); line != "" {
			lines = append(lines, line)
		}
	}
	return lines
}

// codeOf is the code of lines that stand behind each other, with marks for places.
func codeOf(text string) []impl.Ins {
	return insOfLines(placed(cut(text)))
}

// patterns: A, B and C are the kids' code; S and T are the slots; Z, E and U are marks.
var patterns = map[int]string{
	impl.NodeIf:  "A; zero Z; B; jump E; Z:; C; E:",
	impl.NodeLet: "A; put S; B",
	impl.NodeRep: "A; times; put S; B; put T; U:; get S; zero Z; tick; C; put T; get S; push 1; sub; put S; jump U; Z:; get T",
	impl.NodeAnd: "A; zero Z; B; bool; jump E; Z:; push 0; E:",
	impl.NodeOr:  "A; zero Z; push 1; jump E; Z:; B; bool; E:",
}

func patternOf(n impl.Node, slots values) string {
	if pattern, ok := patterns[n.Kind]; ok {
		return pattern
	}
	if n.Kind == impl.NodeNum {
		return "push " + strconv.Itoa(n.Num)
	}
	if slot, ok := slots[n.Name]; ok && n.Kind == impl.NodeName {
		return "get " + strconv.Itoa(slot)
	}
	if n.Kind == impl.NodeName {
		return "load " + n.Name
	}
	for word, ins := range signOps {
		if ins.A == n.Kind {
			return []string{"", "A; ", "A; B; "}[n.Kids] + word
		}
	}
	return ""
}

// marked is the code of a tree with marks of which each begins with the way to its node.
func marked(t []impl.Node, way string, slots values, taken int) []string {
	n, kids := split(t)
	lines := []string{"tick"}
	for _, line := range cut(patternOf(n, slots)) {
		word, rest, _ := strings.Cut(line, " ")
		switch {
		case line == "A" || line == "B" || line == "C":
			at := int(line[0] - 'A')
			inner, more := slots, 0
			if n.Kind == impl.NodeLet || n.Kind == impl.NodeRep {
				more = at
			}
			if n.Kind == impl.NodeLet && at == 1 || n.Kind == impl.NodeRep && at == 2 {
				inner = slots.with(n.Name, taken+more-1)
			}
			lines = append(lines, marked(kids[at], way+line, inner, taken+more)...)
		case rest == "S":
			lines = append(lines, word+" "+strconv.Itoa(taken))
		case rest == "T":
			lines = append(lines, word+" "+strconv.Itoa(taken+1))
		case rest == "Z" || rest == "E" || rest == "U":
			lines = append(lines, word+" "+way+rest)
		case strings.HasSuffix(line, ":"):
			lines = append(lines, way+line)
		default:
			lines = append(lines, line)
		}
	}
	return lines
}

func modelCode(t []impl.Node) []string {
	return placed(marked(t, "", values{}, 0))
}

// modelOk: with the fields that are named taken away an instruction is its Op alone.
func modelOk(c []impl.Ins) bool {
	for _, ins := range c {
		bare, fits := ins, true
		signs := map[int][]int{impl.InsOne: {3, 4, 20}, impl.InsTwo: {5, 6, 7, 8, 9, 10, 11, 12, 13, 14, 15, 18, 19}}
		switch ins.Op {
		case impl.InsTick, impl.InsBool, impl.InsTimes:
		case impl.InsLoad:
			bare.Name = ""
			fits = nameForm.MatchString(ins.Name) && !slices.Contains(allKeys, ins.Name)
		case impl.InsPush:
			bare.A = 0
		case impl.InsGet, impl.InsPut:
			bare.A = 0
			fits = uint(ins.A) < 80
		case impl.InsJump, impl.InsZero:
			bare.A = 0
			fits = uint(ins.A) <= uint(len(c))
		case impl.InsOne, impl.InsTwo:
			bare.A = 0
			fits = slices.Contains(signs[ins.Op], ins.A)
		default:
			return false
		}
		if !fits || bare != (impl.Ins{Op: ins.Op}) {
			return false
		}
	}
	return len(c) >= 1 && len(c) <= 4000
}

// taking and giving: how many numbers an Op takes off and puts on, in the order of the Ops.
var (
	taking = []int{0, 0, 0, 0, 0, 1, 1, 2, 0, 1, 1, 1}
	giving = []int{0, 0, 1, 1, 1, 0, 1, 1, 0, 0, 1, 1}
)

func modelRun(c []impl.Ins, b []impl.Bind) meant {
	if !modelOk(c) || !modelBinds(b) {
		return wrong
	}
	vals := values{}
	for _, x := range b {
		vals[x.Name] = x.Val
	}
	for _, ins := range c {
		if _, ok := vals[ins.Name]; !ok && ins.Op == impl.InsLoad {
			return asks
		}
	}
	var nums []int
	slots := map[int]int{}
	at, steps, count := 0, 0, 0
	for ; at < len(c); count++ {
		ins := c[at]
		below := len(nums) - taking[ins.Op]
		switch {
		case count >= 400000:
			return stuck
		case ins.Op == impl.InsTick && steps >= 20000:
			return lacking
		case below < 0 || below+giving[ins.Op] > 500 && giving[ins.Op] > 0:
			return stuck
		}
		taken := slices.Clone(nums[below:])
		nums = nums[:below]
		at++
		switch ins.Op {
		case impl.InsTick:
			steps++
		case impl.InsPush:
			nums = append(nums, ins.A)
		case impl.InsLoad:
			nums = append(nums, vals[ins.Name])
		case impl.InsGet:
			nums = append(nums, slots[ins.A])
		case impl.InsPut:
			slots[ins.A] = taken[0]
		case impl.InsOne:
			nums = append(nums, modelOp(ins.A, taken[0], 0))
		case impl.InsTwo:
			nums = append(nums, modelOp(ins.A, taken[0], taken[1]))
		case impl.InsBool:
			nums = append(nums, oneIf(taken[0] != 0))
		case impl.InsTimes:
			nums = append(nums, []int{0, taken[0], 64}[oneIf(taken[0] > 0)+oneIf(taken[0] > 64)])
		}
		if ins.Op == impl.InsJump || ins.Op == impl.InsZero && taken[0] == 0 {
			at = ins.A
		}
	}
	if len(nums) != 1 {
		return stuck
	}
	return done(nums[0], steps)
}

var stuck = meant{0, 0, impl.MeanStuck}
