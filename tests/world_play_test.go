package tests

import (
	"math/rand"
	"slices"
	"strings"
	"testing"

	"loop.example/headrace/impl"
)

// Plays: acts on a world, one behind the other, by chance.

// actOf is an act as the head's lines tell it; `junk` puts the text behind it under way.
func actOf(line string) impl.Act {
	if raw, ok := strings.CutPrefix(line, "junk "); ok {
		return impl.Act{Kind: impl.ActJunk, Raw: []byte(raw)}
	}
	for _, f := range lineForms {
		if words := lineParts(f.form, line); words != nil {
			return f.act(words)
		}
	}
	panic(line)
}

func actsOf(lines ...string) []impl.Act {
	var acts []impl.Act
	for _, line := range lines {
		acts = append(acts, actOf(line))
	}
	return acts
}

// junkOf puts a word under way.
func junkOf(s impl.Say) impl.Act {
	return impl.Act{Kind: impl.ActJunk, Raw: []byte(modelSayBytes(s))}
}

// isDone holds an act against the model and the code that is told.
func isDone(t *testing.T, w impl.World, a impl.Act, want int) impl.World {
	t.Helper()
	then, code := impl.WorldDo(w, a)
	model, modelCode := modelDo(w, a)
	if code != want || code != modelCode || !sameWorld(then, model) {
		t.Errorf("%+v at\n%s\ncomes to %d:\n%s\nnot to %d (%d):\n%s", a, worldText(w), code, worldText(then), want, modelCode, worldText(model))
	}
	if code == impl.WorldBad {
		if !sameWorld(then, impl.World{}) {
			t.Errorf("%+v: %s", a, worldText(then))
		}
		return then
	}
	if !impl.WorldOk(then) {
		t.Errorf("%+v at\n%s\nleaves %q:\n%s", a, worldText(w), wrongInWorld(then), worldText(then))
	}
	return then
}

// after is a world behind acts by their lines, all of which are done.
func after(t *testing.T, w impl.World, lines ...string) impl.World {
	t.Helper()
	for _, line := range lines {
		w = isDone(t, w, actOf(line), impl.WorldDone)
	}
	return w
}

func newWorld(t *testing.T, nodes int) impl.World {
	t.Helper()
	w, ok := impl.WorldNew(nodes)
	if !ok {
		t.Fatal(nodes)
	}
	return w
}

// worldOf is a new world behind acts by their lines, all of which are done.
func worldOf(t *testing.T, nodes int, lines ...string) impl.World {
	t.Helper()
	return after(t, newWorld(t, nodes), lines...)
}

// climate is what kinds of bytes come under way that no node said, and whether nodes fall.
type climate struct {
	noise  bool
	forged bool
	falls  bool
}

var worldNames = []string{"x", "y", "z", "a", "b", "c", "d", "e", "ab", "x1", "abcdefgh", "k9", "m", "n", "p", "q", "u", "v"}

// randomDefinition leans mostly on signals that came lately, so that ways part and meet again.
func randomDefinition(r *rand.Rand, w impl.World) impl.Act {
	a := impl.Act{Kind: impl.ActDefine, Node: r.Intn(len(w.Mills)), Name: worldNames[r.Intn(len(worldNames))]}
	there := sigNames(w.Reg)
	switch {
	case r.Intn(30) == 0:
		a.Text = smallBody(r, worldNames)
	case len(there) > 1 && r.Intn(5) > 0:
		a.Text = smallBody(r, there[max(0, len(there)-5):])
	}
	if r.Intn(40) == 0 {
		a.Node = r.Intn(8) - 1
	}
	return a
}

// randomRaw is bytes that are no word, or in a climate with forged words some.
func randomRaw(r *rand.Rand, w impl.World, k climate) []byte {
	if k.forged && r.Intn(3) > 0 {
		return []byte(modelSayBytes(forgedWord(r, w)))
	}
	for {
		raw := someBytes(r, r.Intn(12))
		if len(w.Way) > 0 && r.Intn(2) == 0 {
			raw = string(w.Way[r.Intn(len(w.Way))])
			at := r.Intn(len(raw) + 1)
			raw = raw[:at] + someBytes(r, r.Intn(3)) + raw[min(len(raw), at+r.Intn(3)):]
		}
		if _, ok := modelSayRead(raw); !ok {
			return []byte(raw)
		}
	}
}

// forgedWord is one that no node said, though mostly of a signal that there is, to and from nodes that there are.
func forgedWord(r *rand.Rand, w impl.World) impl.Say {
	s := randomSay(r)
	if len(w.Reg.Sigs) > 0 && r.Intn(6) > 0 {
		s.Name = w.Reg.Sigs[r.Intn(len(w.Reg.Sigs))].Name
		if s.Kind == impl.SayTell {
			v := versions{}
			for _, src := range modelSources(w.Reg, s.Name) {
				v[src] = 1 + r.Intn(12)
			}
			s.Stamp = versOfMarks(v.marks())
		}
	}
	s.From, s.To = r.Intn(len(w.Mills)), r.Intn(len(w.Mills))
	if s.From == s.To || r.Intn(10) == 0 {
		s.From = s.To + 1
	}
	return s
}

// someName is mostly one of the register's; a source's, where that is wanted.
func someName(r *rand.Rand, w impl.World, source bool) string {
	var names []string
	for _, s := range w.Reg.Sigs {
		if s.Body == "" || !source {
			names = append(names, s.Name)
		}
	}
	if len(names) == 0 || r.Intn(15) == 0 {
		names = worldNames
	}
	return names[r.Intn(len(names))]
}

// fallOrRise lets nodes fall by their fuses and without them, and come back, sometimes not for long.
func fallOrRise(r *rand.Rand, w impl.World) impl.Act {
	node := r.Intn(len(w.Mills))
	if at := slices.IndexFunc(w.Mills, func(m impl.Mill) bool { return m.Disk.Down }); at >= 0 && r.Intn(5) > 0 {
		return impl.Act{Kind: impl.ActRise, Node: at, N: []int{-1, -1, 0, r.Intn(40)}[r.Intn(4)]}
	}
	switch r.Intn(4) {
	case 0:
		return impl.Act{Kind: impl.ActFall, Node: node, N: r.Intn(4) - 1}
	case 1:
		return impl.Act{Kind: impl.ActRise, Node: r.Intn(7) - 1, N: r.Intn(3) - 1}
	}
	return impl.Act{Kind: impl.ActFuse, Node: node, N: []int{-1, r.Intn(50), r.Intn(15)}[r.Intn(3)]}
}

// randomAct is mostly one that is done. As time goes by less is defined.
func randomAct(r *rand.Rand, w impl.World, k climate, time int) impl.Act {
	isDown := slices.ContainsFunc(w.Mills, func(m impl.Mill) bool { return m.Disk.Down })
	place := r.Intn(max(1, len(w.Way)))
	if r.Intn(12) == 0 {
		place = r.Intn(len(w.Way)+2) - 1
	}
	switch n := r.Intn(100); {
	case n < 95-7*time, n < 6:
		return randomDefinition(r, w)
	case n < 8:
		return impl.Act{Kind: impl.ActRemove, Name: someName(r, w, false)}
	case n < 22:
		return impl.Act{Kind: impl.ActSet, Name: someName(r, w, true), Val: r.Intn(100) - 20}
	case n < 42:
		return impl.Act{Kind: impl.ActTick, Node: r.Intn(len(w.Mills))}
	case n < 45:
		return impl.Act{Kind: impl.ActLose, N: place}
	case n < 49:
		return impl.Act{Kind: impl.ActCopy, N: place}
	case n < 54 && (k.noise || k.forged), n < 66 && k.forged:
		return impl.Act{Kind: impl.ActJunk, Raw: randomRaw(r, w, k)}
	case k.falls && (n < 68 || n < 80 && isDown):
		return fallOrRise(r, w)
	}
	if len(w.Way) == 0 && r.Intn(6) > 0 {
		return impl.Act{Kind: impl.ActTick, Node: r.Intn(len(w.Mills))}
	}
	return impl.Act{Kind: impl.ActGive, N: place * oneIf(r.Intn(3) > 0)}
}

// step is an act in a play: the world ahead of it, and what came of it.
type step struct {
	w    impl.World
	a    impl.Act
	then impl.World
	code int
}

// playWorld does so many acts on a new world, and lets somebody look at each.
func playWorld(r *rand.Rand, acts int, k climate, look func(s step)) impl.World {
	w, _ := impl.WorldNew(2 + r.Intn(4))
	for time := range acts {
		a := randomAct(r, w, k, time)
		then, code := impl.WorldDo(w, a)
		look(step{w, a, then, code})
		w = then
	}
	return w
}

// noted are the acts of a play.
func noted(r *rand.Rand, acts int, k climate) []step {
	var steps []step
	playWorld(r, acts, k, func(s step) { steps = append(steps, s) })
	return steps
}

var allClimates = []climate{{}, {falls: true}, {noise: true}, {noise: true, falls: true}, {forged: true}, {noise: true, forged: true, falls: true}}

func TestWorldsAgainstModel(t *testing.T) {
	t.Parallel()
	r := rand.New(rand.NewSource(400))
	var codes [12][4]int
	words, shown := 0, 0
	for n := range 240 {
		playWorld(r, 60, allClimates[n%len(allClimates)], func(s step) {
			codes[s.a.Kind][s.code]++
			words = max(words, len(s.then.Way))
			for _, m := range s.then.Mills {
				shown += len(m.Cells)
			}
			if then, code := modelDo(s.w, s.a); code != s.code || !sameWorld(then, s.then) {
				t.Fatalf("%+v at\n%s\ncomes to %d:\n%s\nnot to %d:\n%s", s.a, worldText(s.w), s.code, worldText(s.then), code, worldText(then))
			}
			if !modelWorldOk(s.then) || !impl.WorldOk(s.then) {
				t.Fatalf("%+v at\n%s\nleaves %q", s.a, worldText(s.w), wrongInWorld(s.then))
			}
		})
	}
	for kind, least := range map[int][4]int{
		impl.ActDefine: {500, 0, 100, 10}, impl.ActRemove: {40, 0, 50, 1}, impl.ActSet: {500, 0, 50, 20}, impl.ActTick: {1000, 0, 50, 3}, impl.ActGive: {2000, 0, 500, 0}, impl.ActLose: {100, 0, 20, 0}, impl.ActCopy: {100, 0, 20, 0}, impl.ActJunk: {100, 0, 0, 0}, impl.ActFuse: {40, 0, 2, 0}, impl.ActFall: {20, 0, 2, 0}, impl.ActRise: {40, 0, 20, 5},
	} {
		for code := range least {
			if codes[kind][code] < least[code] {
				t.Errorf("kind %d: %v", kind, codes[kind])
			}
		}
	}
	if words < 20 || shown < 20000 {
		t.Error(words, shown)
	}
}
