package tests

import (
	"cmp"
	"maps"
	"math/rand"
	"slices"
	"strconv"
	"strings"
	locks "sync"

	"loop.example/headrace/impl"
)

// The model of the register: inputs by the models of words and trees; sources and depths by going through the list once from its end, with what is still to be looked at; meanings by going through it from its beginning, for all signals at once; codes by asking for all that hold, and then for the first of them.

func modelName(s string) bool { return nameForm.MatchString(s) && !slices.Contains(allKeys, s) }

// modelBody is the tree of a body, and the names it asks for; false where it is not read.
func modelBody(body string) ([]impl.Node, []string, bool) {
	words, fault := modelWords(body)
	if fault.Code != 0 || firstBad(words) != -1 {
		return nil, nil, false
	}
	var texts []string
	for _, w := range words {
		texts = append(texts, w.Text)
	}
	l := modelTree(texts)
	if deep, _ := modelDeep(l, 0); deep > 40 {
		return nil, nil, false
	}
	free := map[string]bool{}
	modelFree(l, nil, free)
	return l, slices.Sorted(maps.Keys(free)), true
}

// readBodies keeps what was found of bodies, as the model is slow to read them, and they come again and again.
var readBodies locks.Map

type readBody struct {
	ins []string
	ok  bool
}

func modelIns(body string) ([]string, bool) {
	if body == "" {
		return nil, true
	}
	if len(body) >= 201 {
		return nil, false
	}
	kept, _ := readBodies.Load(body)
	known, there := kept.(readBody)
	if !there {
		_, known.ins, known.ok = modelBody(body)
		readBodies.Store(body, known)
	}
	if n := len(known.ins); !known.ok || n == 0 || n >= 5 {
		return nil, false
	}
	return slices.Clone(known.ins), true
}

func modelSigOk(s impl.Sig) bool {
	_, ok := modelIns(s.Body)
	return ok && modelName(s.Name) && slices.Contains([]int{0, 1, 2, 3, 4}, s.Home)
}

func inputsOf(s impl.Sig) []string {
	ins, _ := modelIns(s.Body)
	return ins
}

func sigNames(r impl.Reg) []string {
	var names []string
	for _, s := range r.Sigs {
		names = append(names, s.Name)
	}
	return names
}

func hasTwice(names []string) bool {
	return len(slices.Compact(slices.Sorted(slices.Values(names)))) < len(names)
}

func modelRegOk(r impl.Reg) bool {
	names := sigNames(r)
	if len(names) >= 17 || len(r.Gone) >= 61 || hasTwice(slices.Concat(names, r.Gone)) || !slices.IsSorted(r.Gone) {
		return false
	}
	for _, s := range r.Gone {
		if !modelName(s) {
			return false
		}
	}
	for i, s := range r.Sigs {
		if !modelSigOk(s) {
			return false
		}
		for _, in := range inputsOf(s) {
			if !slices.Contains(names[:i], in) {
				return false
			}
		}
		if len(modelFar(r.Sigs[:i+1], s.Name).sources()) >= 13 {
			return false
		}
	}
	return true
}

func modelAt(r impl.Reg, name string) int {
	if !modelRegOk(r) {
		return -1
	}
	return slices.Index(sigNames(r), name)
}

// far is how far signals are at most from one that leans on them.
type far struct {
	sigs []impl.Sig
	from map[string]int
}

func modelFar(sigs []impl.Sig, name string) far {
	f := far{sigs, map[string]int{name: 0}}
	for _, s := range slices.Backward(sigs) {
		if steps, ok := f.from[s.Name]; ok {
			for _, in := range inputsOf(s) {
				f.from[in] = max(f.from[in], steps+1)
			}
		}
	}
	return f
}

func (f far) sources() []string {
	var names []string
	for _, s := range f.sigs {
		if _, ok := f.from[s.Name]; ok && s.Body == "" {
			names = append(names, s.Name)
		}
	}
	slices.Sort(names)
	return names
}

func modelSources(r impl.Reg, name string) []string {
	if modelAt(r, name) < 0 {
		return nil
	}
	return modelFar(r.Sigs, name).sources()
}

func modelDepth(r impl.Reg, name string) int {
	if modelAt(r, name) < 0 {
		return -1
	}
	return slices.Max(slices.Collect(maps.Values(modelFar(r.Sigs, name).from)))
}

// modelMeanings is what all signals mean that mean something.
func modelMeanings(r impl.Reg, vals []impl.Bind) values {
	all := values{}
	for _, s := range r.Sigs {
		var binds []impl.Bind
		for _, in := range inputsOf(s) {
			if val, ok := all[in]; ok {
				binds = append(binds, impl.Bind{Name: in, Val: val})
			}
		}
		if s.Body == "" {
			if at := slices.IndexFunc(vals, func(b impl.Bind) bool { return b.Name == s.Name }); at >= 0 {
				all[s.Name] = vals[at].Val
			}
		} else if len(binds) == len(inputsOf(s)) {
			l, _, _ := modelBody(s.Body)
			all[s.Name], _, _ = modelMean(l, binds)
		}
	}
	return all
}

func modelRegMean(r impl.Reg, vals []impl.Bind, name string) (int, bool) {
	if !modelRegOk(r) || !modelBinds(vals) {
		return 0, false
	}
	val, ok := modelMeanings(r, vals)[name]
	return val, ok
}

// addCodes are all codes that hold of a signal that would come, in the document's order.
func addCodes(r impl.Reg, s impl.Sig) []int {
	if !modelRegOk(r) || !modelSigOk(s) {
		return []int{impl.RegBad}
	}
	var codes []int
	holds := func(code int, does bool) {
		if does {
			codes = append(codes, code)
		}
	}
	names, ins := sigNames(r), inputsOf(s)
	sources := map[string]bool{}
	for _, in := range ins {
		for _, src := range modelSources(r, in) {
			sources[src] = true
		}
	}
	holds(impl.RegTwice, slices.Contains(names, s.Name))
	holds(impl.RegUsed, slices.Contains(r.Gone, s.Name))
	holds(impl.RegLoop, slices.Contains(ins, s.Name))
	holds(impl.RegNone, slices.ContainsFunc(ins, func(in string) bool { return !slices.Contains(names, in) }))
	holds(impl.RegMany, len(names) >= 16 || len(sources) >= 13)
	return codes
}

func modelAdd(r impl.Reg, s impl.Sig) (impl.Reg, int) {
	codes := addCodes(r, s)
	switch {
	case len(codes) == 0:
		return impl.Reg{Sigs: slices.Concat(r.Sigs, []impl.Sig{s}), Gone: r.Gone}, impl.RegDone
	case codes[0] == impl.RegBad:
		return impl.Reg{}, impl.RegBad
	}
	return r, codes[0]
}

// dropCodes are all codes that hold of a name that would go, in the document's order.
func dropCodes(r impl.Reg, name string) []int {
	if !modelRegOk(r) {
		return []int{impl.RegBad}
	}
	var codes []int
	if !slices.Contains(sigNames(r), name) {
		codes = append(codes, impl.RegNone)
	}
	if slices.ContainsFunc(r.Sigs, func(s impl.Sig) bool { return slices.Contains(inputsOf(s), name) }) {
		codes = append(codes, impl.RegHeld)
	}
	if len(r.Gone) >= 60 {
		codes = append(codes, impl.RegMany)
	}
	return codes
}

func modelDrop(r impl.Reg, name string) (impl.Reg, int) {
	codes := dropCodes(r, name)
	switch {
	case len(codes) == 0:
		left := slices.DeleteFunc(slices.Clone(r.Sigs), func(s impl.Sig) bool { return s.Name == name })
		return impl.Reg{Sigs: left, Gone: slices.Sorted(slices.Values(append(slices.Clone(r.Gone), name)))}, impl.RegDone
	case codes[0] == impl.RegBad:
		return impl.Reg{}, impl.RegBad
	}
	return r, codes[0]
}

func sameReg(a, b impl.Reg) bool { return slices.Equal(a.Sigs, b.Sigs) && slices.Equal(a.Gone, b.Gone) }

// sig is a signal by its line: its name, behind `@` its home, behind ` = ` its body.
func sig(line string) impl.Sig {
	head, body, _ := strings.Cut(line, " = ")
	name, home, _ := strings.Cut(head, "@")
	s := impl.Sig{Name: name, Body: body}
	if home != "" {
		s.Home, _ = strconv.Atoi(home)
	}
	return s
}

// regOf is a register by the lines of its signals, with `; ` between two, and the names that are no more, with blanks between.
func regOf(lines, gone string) impl.Reg {
	r := impl.Reg{Gone: strings.Fields(gone)}
	for line := range strings.SplitSeq(lines, "; ") {
		if line != "" {
			r.Sigs = append(r.Sigs, sig(line))
		}
	}
	return r
}

// numbered are so many names, ascending.
func numbered(stem string, n int) []string {
	var names []string
	for i := range n {
		names = append(names, stem+strconv.Itoa(100 + i)[1:])
	}
	return names
}

// sourcesOnly is a register of so many sources.
func sourcesOnly(n int) impl.Reg {
	var r impl.Reg
	for i, name := range numbered("s", n) {
		r.Sigs = append(r.Sigs, impl.Sig{Name: name, Home: i % 5})
	}
	return r
}

// layered is a register of so many sources and as many signals as it takes that all of them go into the last one.
func layered(sources int) impl.Reg {
	r := sourcesOnly(sources)
	left := sigNames(r)
	for n := 0; len(left) > 1; n++ {
		take := min(4, len(left))
		s := impl.Sig{Name: "t" + strconv.Itoa(n), Body: strings.Join(left[:take], " + ")}
		r.Sigs = append(r.Sigs, s)
		left = append([]string{s.Name}, left[take:]...)
	}
	return r
}

// tangled is a source and so many signals with it, each of which leans on the four ahead of it; the bodies have this text ahead.
func tangled(n int, ahead string) impl.Reg {
	names := numbered("v", n)
	var r impl.Reg
	for i, name := range names {
		s := impl.Sig{Name: name, Home: i % 5}
		if i > 0 {
			s.Body = ahead + strings.Join(names[max(0, i-4):i], " + ")
		}
		r.Sigs = append(r.Sigs, s)
	}
	return r
}

var regNames = []string{"a", "b", "ab", "abc", "x", "y", "z1", "abcdefgh", "iff", "nott", "m", "n", "o1", "p", "q", "zz", "k9", "w", "v", "u"}

// randomBody is a body that asks for one to four of these names; some are made known inside, too.
func randomBody(r *rand.Rand, names []string) string {
	for {
		few := someOf(r, names, min(5, len(names)))
		l := busyTree(r, 1+r.Intn(16), 1+r.Intn(5))
		for i := range l {
			if l[i].Name != "" {
				l[i].Name = few[slices.Index(someNames, l[i].Name)%len(few)]
			}
		}
		text := impl.TreeShow(l)
		if r.Intn(4) == 0 {
			text = strings.ReplaceAll(" "+text, " ", strings.Repeat(" ", 1+r.Intn(2)))
		}
		if _, ok := modelIns(text); ok {
			return text
		}
	}
}

// randomReg is a register of so many signals, about a third of them sources, and some names that are no more.
func randomReg(r *rand.Rand, n int) impl.Reg {
	places := r.Perm(len(regNames))
	var reg impl.Reg
	for i, at := range places[:n] {
		s := impl.Sig{Name: regNames[at], Home: r.Intn(5)}
		if i > 0 && r.Intn(3) > 0 {
			s.Body = randomBody(r, lastOf(sigNames(reg), 3+r.Intn(4)))
		}
		reg.Sigs = append(reg.Sigs, s)
	}
	for _, at := range places[n:] {
		if r.Intn(3) == 0 {
			reg.Gone = append(reg.Gone, regNames[at])
		}
	}
	slices.Sort(reg.Gone)
	return reg
}

// turnedReg is a register of which mostly something is another way than it should be.
func turnedReg(r *rand.Rand, n int) impl.Reg {
	reg := randomReg(r, n)
	at := r.Intn(n)
	s := &reg.Sigs[at]
	switch r.Intn(13) {
	case 0:
		other := r.Intn(n)
		reg.Sigs[at], reg.Sigs[other] = reg.Sigs[other], reg.Sigs[at]
	case 1:
		s.Name = reg.Sigs[r.Intn(n)].Name
	case 2:
		s.Name = regNames[r.Intn(len(regNames))]
	case 3:
		s.Name = noNames[r.Intn(len(noNames))]
	case 4:
		s.Home = []int{-1, 0, 4, 5, least, most, 1 << 32}[r.Intn(7)]
	case 5:
		s.Body = randomBody(r, regNames)
	case 6:
		s.Body = bentBody(r, s.Body)
	case 7:
		reg.Sigs = slices.Delete(reg.Sigs, at, at+1)
	case 8:
		reg.Gone = slices.Insert(reg.Gone, r.Intn(len(reg.Gone)+1), regNames[r.Intn(len(regNames))])
	case 9:
		reg.Gone = append(reg.Gone, noNames[r.Intn(len(noNames))])
		slices.Sort(reg.Gone)
	case 10:
		reg.Gone = slices.SortedFunc(slices.Values(reg.Gone), func(a, b string) int { return cmp.Compare(b, a) })
	case 11:
		s.Body = s.Name + " + 1"
	}
	return reg
}

// bentBody is a body with something more, or less.
func bentBody(r *rand.Rand, body string) string {
	at := r.Intn(len(body) + 1)
	switch r.Intn(4) {
	case 0:
		return body[:at]
	case 1:
		return body[:at] + []string{" ", "+", "(", "x", "7", "A", "\xff", "if"}[r.Intn(8)] + body[at:]
	case 2:
		return body + strings.Repeat(" ", 200-min(200, len(body))+r.Intn(2))
	}
	return strconv.Itoa(r.Intn(9))
}
