package tests

import (
	"fmt"
	"math/rand"
	"slices"
	"testing"

	"loop.example/headrace/impl"
)

// Plays: calls at one node, one behind the other, by chance.

const (
	callDefine = iota
	callRemove
	callSet
	callTake
	callTick
	callFall
	callRise
	callKinds
)

// millCall is something that is asked of a node.
type millCall struct {
	kind       int
	name, body string
	num        int
	say        impl.Say
	reg        impl.Reg
}

func (c millCall) String() string {
	return fmt.Sprintf("{%s %q %q %d %v %v}", [...]string{"define", "remove", "set", "take", "tick", "fall", "rise"}[c.kind], c.name, c.body, c.num, c.say, c.reg.Sigs)
}

func (c millCall) do(m impl.Mill) answer {
	switch c.kind {
	case callDefine:
		return defineAt(m, c.name, c.body)
	case callRemove:
		return removeAt(m, c.name)
	case callSet:
		return setAt(m, c.name, c.num)
	case callTake:
		return takeAt(m, c.say)
	case callTick:
		return tickAt(m, c.reg)
	case callRise:
		return riseAt(m, c.num)
	}
	then, ok := impl.MillFall(m, c.num)
	return answer{m: then, code: oneIf(!ok)}
}

func (c millCall) model(m impl.Mill) answer {
	switch c.kind {
	case callDefine:
		return modelDefine(m, c.name, c.body)
	case callRemove:
		return modelRemove(m, c.name)
	case callSet:
		return modelSet(m, c.name, c.num)
	case callTake:
		return modelTake(m, c.say)
	case callTick:
		return modelTick(m, c.reg)
	case callRise:
		s, ok := modelRise(shelfOf(m.Disk), c.num)
		if !ok || !modelMillOk(m) {
			return answer{code: impl.MillBad}
		}
		then, code := modelOpenNode(m.Home, s.disk())
		return answer{m: then, code: code}
	}
	s, ok := modelFall(shelfOf(m.Disk), c.num)
	if !ok || !modelMillOk(m) {
		return answer{code: 1}
	}
	return answer{m: impl.Mill{Home: m.Home, Disk: s.disk()}}
}

// farInputs are the inputs of cells that live elsewhere.
func farInputs(m impl.Mill) []string {
	var far []string
	for _, c := range m.Cells {
		for _, in := range c.Ins {
			if _, there := cellOf(m, in); !there {
				far = append(far, in)
			}
		}
	}
	return far
}

// randomTell is a value of something that lives elsewhere, mostly of an input, and of about this time.
func randomTell(r *rand.Rand, m impl.Mill, time int) impl.Say {
	name := cellNames[r.Intn(len(cellNames))]
	if far := farInputs(m); len(far) > 0 && r.Intn(8) > 0 {
		name = far[r.Intn(len(far))]
	}
	stamp := stampAt(m, name, max(0, time-r.Intn(3)))
	return tell((m.Home+1+r.Intn(4))%5, m.Home, name, farValue(name, versionsOf(stamp)), versOfMarks(stamp)...)
}

// farValue is what something that lives elsewhere means at versions of its sources.
func farValue(name string, v versions) int {
	val := len(name)
	for _, m := range v.marks() {
		val = val*31 + int(m.Src[0]) + 7*m.Ver
	}
	return val
}

// randomHomes is a register of some names, each at home anywhere.
func randomHomes(r *rand.Rand) impl.Reg {
	var reg impl.Reg
	names := slices.Concat(cellNames, farNames)
	for _, at := range r.Perm(len(names)) {
		if r.Intn(4) > 0 {
			reg.Sigs = append(reg.Sigs, impl.Sig{Name: names[at], Home: r.Intn(5)})
		}
	}
	return reg
}

// randomCall is mostly one that is done.
func randomCall(r *rand.Rand, m impl.Mill, time int) millCall {
	name := cellNames[r.Intn(len(cellNames))]
	own := name
	if len(m.Cells) > 0 && r.Intn(6) > 0 {
		own = m.Cells[r.Intn(len(m.Cells))].Name
	}
	if m.Disk.Down && r.Intn(4) > 0 {
		return millCall{kind: callRise, num: r.Intn(40) - 1}
	}
	switch r.Intn(40) {
	case 0, 1, 2:
		return millCall{kind: callDefine, name: name}
	case 3, 4, 5, 6, 7:
		var there []string
		for _, c := range m.Cells {
			there = append(there, c.Name)
		}
		return millCall{kind: callDefine, name: name, body: bodyOver(r, there)}
	case 8:
		return millCall{kind: callRemove, name: own}
	case 9, 10, 11, 12, 13, 14, 15, 16:
		return millCall{kind: callSet, name: own, num: r.Intn(1000)}
	case 17, 18, 19, 20:
		return millCall{kind: callTake, say: ask((m.Home+1+r.Intn(4))%5, m.Home, own)}
	case 21:
		return millCall{kind: callTake, say: randomSay(r)}
	case 22, 23, 24, 25, 26:
		return millCall{kind: callTick, reg: randomHomes(r)}
	case 27:
		return millCall{kind: callFall, num: r.Intn(5) - 1}
	case 28:
		return millCall{kind: callRise, num: r.Intn(40) - 1}
	}
	return millCall{kind: callTake, say: randomTell(r, m, time)}
}

// playNode asks a node of so many calls, and lets somebody look at each; what may not be leaves the node as it was. Sometimes a fuse is put in.
func playNode(r *rand.Rand, calls int, look func(m impl.Mill, c millCall, a answer)) impl.Mill {
	m, _ := impl.MillOpen(r.Intn(5), impl.Disk{Fuse: -1})
	fuses := r.Intn(2) == 0
	for time := range calls {
		if !m.Disk.Down && fuses && r.Intn(12) == 0 {
			m.Disk.Fuse = r.Intn(60)
		}
		c := randomCall(r, m, time/3)
		a := c.do(m)
		look(m, c, a)
		if a.code != impl.MillBad {
			m = a.m
		}
	}
	return m
}

func TestNodesAgainstModel(t *testing.T) {
	r := rand.New(rand.NewSource(330))
	var codes [callKinds][9]int
	words, shown := 0, 0
	for range 250 {
		playNode(r, 60, func(m impl.Mill, c millCall, a answer) {
			codes[c.kind][a.code]++
			words += len(a.says)
			if c.kind == callFall {
				if !a.same(c.model(m)) {
					t.Fatalf("%v at %s:\n%v, not\n%v", c, millText(m), a, c.model(m))
				}
				return
			}
			holdsAt(t, m, a, c.model(m), a.code)
			for _, cell := range a.m.Cells {
				shown += oneIf(cell.Has && cell.Body != "")
			}
			readsRandom(t, r, a.m)
		})
	}
	for kind, want := range map[int][]int{
		callDefine: {impl.MillDone, impl.MillDown, impl.MillHas, impl.MillUsed, impl.MillHeld},
		callRemove: {impl.MillDone, impl.MillDown, impl.MillNone, impl.MillHeld},
		callSet:    {impl.MillDone, impl.MillDown, impl.MillNone},
		callTake:   {impl.MillDone, impl.MillDown, impl.MillNone, impl.MillBad},
		callTick:   {impl.MillDone, impl.MillDown},
		callFall:   {impl.MillDone, impl.MillBad},
		callRise:   {impl.MillDone, impl.MillDown, impl.MillBad},
	} {
		for _, code := range want {
			if codes[kind][code] < 10 {
				t.Errorf("call %d, code %d: %v", kind, code, codes[kind])
			}
		}
	}
	if words < 2000 || shown < 2000 {
		t.Error(words, shown)
	}
}

// readsRandom holds what some names show together against the model.
func readsRandom(t *testing.T, r *rand.Rand, m impl.Mill) bool {
	t.Helper()
	names := someOf(r, cellNames, 4)
	if len(m.Cells) > 0 && r.Intn(4) > 0 {
		names = nil
		for range r.Intn(5) {
			names = append(names, m.Cells[r.Intn(len(m.Cells))].Name)
		}
	}
	_, _, want := modelReads(m, names)
	readsAll(t, m, names, want)
	return want
}

// The same of nodes that no play leaves.
func TestCallsAtAnyNodesAgainstModel(t *testing.T) {
	r := rand.New(rand.NewSource(331))
	var done [callKinds]int
	read := [2]int{}
	for range 1500 {
		m := anyMill(r)
		for range 4 {
			c := randomCall(r, m, r.Intn(8))
			a := c.do(m)
			if !a.same(c.model(m)) {
				t.Fatalf("%v at %s:\n%v, not\n%v", c, millText(m), a, c.model(m))
			}
			done[c.kind] += oneIf(a.code == impl.MillDone)
			read[oneIf(readsRandom(t, r, m))]++
			if a.code != impl.MillBad {
				m = a.m
			}
		}
	}
	if slices.Min(done[:]) < 20 || min(read[0], read[1]) < 500 {
		t.Error(done, read)
	}
}
