package tests

import (
	"fmt"
	"math/rand"
	"slices"
	"strings"
	"testing"

	"loop.example/headrace/impl"
)

// chronicle is what was defined, and what sources said under which versions, by a look at the world behind each act.
type chronicle struct {
	defs map[string]impl.Sig
	said history
}

func newChronicle() *chronicle { return &chronicle{map[string]impl.Sig{}, history{}} }

func (c *chronicle) note(t *testing.T, w impl.World) {
	t.Helper()
	for _, s := range w.Reg.Sigs {
		if was, there := c.defs[s.Name]; there && was != s {
			t.Fatalf("%v became %v", was, s)
		}
		c.defs[s.Name] = s
	}
	for _, m := range w.Mills {
		for _, cell := range m.Cells {
			if cell.Body == "" && cell.Has {
				c.hear(t, cell.Name, cell.Out)
			}
		}
	}
	for _, s := range tellsUnderWay(w) {
		if def, there := c.defs[s.Name]; there && def.Body == "" {
			c.hear(t, s.Name, impl.Item{Val: s.Val, Stamp: marksOf(s.Stamp)})
		}
	}
}

// hear takes down what a source said; no version is said with two values.
func (c *chronicle) hear(t *testing.T, src string, it impl.Item) {
	t.Helper()
	if len(it.Stamp) != 1 || it.Stamp[0].Src != src {
		t.Fatalf("the source %q says %v", src, it)
	}
	if c.said[src] == nil {
		c.said[src] = map[int]int{}
	}
	if was, there := c.said[src][it.Stamp[0].Ver]; there && was != it.Val {
		t.Fatalf("the source %q said %d and says %v", src, was, it)
	}
	c.said[src][it.Stamp[0].Ver] = it.Val
}

func tellsUnderWay(w impl.World) []impl.Say {
	var says []impl.Say
	for _, b := range w.Way {
		if s, ok := modelSayRead(string(b)); ok && s.Kind == impl.SayTell {
			says = append(says, s)
		}
	}
	return says
}

// leaves are the sources that go into a signal, ascending.
func (c *chronicle) leaves(name string) []string {
	def := c.defs[name]
	if def.Body == "" {
		return []string{name}
	}
	var all []string
	for _, in := range bodyIns(def.Body) {
		all = append(all, c.leaves(in)...)
	}
	slices.Sort(all)
	return slices.Compact(all)
}

// meaning is what a signal means at versions of its sources; false where one was never said.
func (c *chronicle) meaning(name string, v versions) (int, bool) {
	def, there := c.defs[name]
	if def.Body == "" {
		val, said := c.said[name][v[name]]
		return val, said && there
	}
	var b []impl.Bind
	for _, in := range bodyIns(def.Body) {
		val, ok := c.meaning(in, v)
		if !ok {
			return 0, false
		}
		b = append(b, impl.Bind{Name: in, Val: val})
	}
	tree, _ := impl.TreeRead(def.Body)
	val, _, _ := impl.MeanOf(tree, b)
	return val, true
}

// isTrue holds that a value is what its signal means at the versions of its stamp, which has a version of each source that goes into it, and of no other.
func (c *chronicle) isTrue(t *testing.T, w impl.World, name string, it impl.Item) {
	t.Helper()
	var srcs []string
	for _, m := range it.Stamp {
		srcs = append(srcs, m.Src)
	}
	if val, ok := c.meaning(name, versionsOf(it.Stamp)); !ok || val != it.Val || !slices.Equal(srcs, c.leaves(name)) {
		t.Fatalf("%q as %v means %d (%v) in\n%s", name, it, val, ok, worldText(w))
	}
}

// quiet are the climates in which no bytes that are words are put under way but by nodes.
var quiet = allClimates[:4]

// livelyWorld has ways that part and meet again over several nodes, with much that may come late.
func livelyWorld(r *rand.Rand, nodes int) []impl.Act {
	lines := []string{"source N x", "source N y", "define N a x * 2", "define N b x + y", "define N c a + b", "define N d c - x", "define N e d + a + y"}
	var acts []impl.Act
	for _, line := range lines[:4+r.Intn(4)] {
		acts = append(acts, actOf(strings.Replace(line, "N", fmt.Sprint(r.Intn(nodes)), 1)))
	}
	return acts
}

// manyWorlds plays so many acts on new worlds in some climates, each other play from a lively world on; somebody looks at each step, for each play another one.
func manyWorlds(seed int64, plays, acts int, climates []climate, begin func() func(s step)) {
	r := rand.New(rand.NewSource(seed))
	for n := range plays {
		look, k := begin(), climates[n%len(climates)]
		if n%(2*len(climates)) < len(climates) {
			playWorld(r, acts, k, look)
			continue
		}
		nodes := 2 + r.Intn(4)
		w, _ := impl.WorldNew(nodes)
		prelude := livelyWorld(r, nodes)
		for time := range acts {
			a := randomAct(r, w, k, 10+time)
			if time < len(prelude) {
				a = prelude[time]
			}
			then, code := impl.WorldDo(w, a)
			look(step{w, a, then, code})
			w = then
		}
	}
}

func TestPromise1WhatSignalsShow(t *testing.T) {
	t.Parallel()
	shown, wide := 0, 0
	manyWorlds(1, 160, 60, quiet, func() func(s step) {
		c := newChronicle()
		return func(s step) {
			c.note(t, s.then)
			for _, m := range s.then.Mills {
				for _, cell := range m.Cells {
					if cell.Has {
						c.isTrue(t, s.then, cell.Name, cell.Out)
						shown += oneIf(cell.Body != "")
						wide += oneIf(len(cell.Out.Stamp) > 1)
					}
				}
			}
		}
	})
	if shown < 5000 || wide < 2000 {
		t.Error(shown, wide)
	}
}

// holdOne lets words come in each order that there is; whatever has come, nothing is shown that is not of one time.
func holdOne(t *testing.T, w impl.World, c *chronicle, look func(w impl.World)) int {
	t.Helper()
	c.note(t, w)
	look(w)
	ends := oneIf(len(w.Way) == 0)
	for at := range w.Way {
		if slices.ContainsFunc(w.Way[:at], func(b []byte) bool { return string(b) == string(w.Way[at]) }) {
			continue
		}
		then, _ := impl.WorldDo(w, impl.Act{Kind: impl.ActGive, N: at})
		ends += holdOne(t, then, c, look)
	}
	return ends
}

func TestPromise1InEachOrder(t *testing.T) {
	t.Parallel()
	w := worldOf(t, 3, "source 0 x", "define 1 d x * 2", "define 2 s d - x", "tick 1", "tick 2")
	for len(w.Way) > 0 {
		w = after(t, w, "give 0")
	}
	w = after(t, w, "set x 1", "set x 2")
	c := newChronicle()
	shown := map[string]int{}
	ends := holdOne(t, w, c, func(w impl.World) {
		if it, ok := impl.WorldRead(w, "s"); ok {
			c.isTrue(t, w, "s", it)
			shown[modelStampText(it.Stamp)]++
		}
	})
	if ends < 50 || shown["x:1"] < 20 || shown["x:2"] < 50 || len(shown) != 2 {
		t.Error(ends, shown)
	}
	// acts that are none, or name what there is not, show nothing that is not so
	for _, a := range []impl.Act{{}, {Kind: 12}, actOf("set d 7"), actOf("set s 7"), actOf("define 0 d x * 3"), actOf("define 1 x d"), actOf("remove x"), actOf("give 99"), actOf("tick 3"), {Kind: impl.ActJunk, Raw: w.Way[0][1:]}} {
		then, code := impl.WorldDo(w, a)
		if code == impl.WorldBad {
			continue
		}
		c.note(t, then)
		for _, m := range then.Mills {
			for _, cell := range m.Cells {
				if cell.Has {
					c.isTrue(t, then, cell.Name, cell.Out)
				}
			}
		}
	}
}

func TestPromise2NoVersionIsSaidTwice(t *testing.T) {
	t.Parallel()
	versions, fell := 0, 0
	manyWorlds(2, 160, 60, quiet, func() func(s step) {
		c := newChronicle()
		return func(s step) {
			c.note(t, s.then)
			if s.code == impl.WorldFell || s.a.Kind == impl.ActFall && s.code == impl.WorldDone {
				fell++
			}
			for _, vals := range c.said {
				versions = max(versions, len(vals))
			}
		}
	})
	if versions < 5 || fell < 100 {
		t.Error(versions, fell)
	}
}

// At each byte: a source falls while it is set, while it comes back, while it is said anew, and is set to something else then.
func TestPromise2AtEachByte(t *testing.T) {
	t.Parallel()
	fell := 0
	for first := range 28 {
		for second := range 28 {
			w := worldOf(t, 2, "source 0 x", "define 1 d x", "set x 1", "tick 1", "give 0", "give 0")
			c := newChronicle()
			c.note(t, w)
			for i, a := range actsOf(fmt.Sprintf("fuse 0 %d", first), "set x 2", "set x 3", "rise 0 0", fmt.Sprintf("rise 0 %d", second), "tick 0", "set x 4", "fall 0 0", "rise 0 1", "rise 0 -1", "set x 5", "tick 1", "give 0", "give 0") {
				then, code := impl.WorldDo(w, a)
				fell += oneIf(code == impl.WorldFell)
				if code == impl.WorldBad {
					t.Fatal(i)
				}
				w = then
				c.note(t, w)
			}
			if it, ok := impl.WorldRead(w, "d"); ok {
				c.isTrue(t, w, "d", it)
			}
		}
	}
	if fell < 1500 {
		t.Error(fell)
	}
}

// isNotBelow holds that no version of what was shown is gone or less.
func isNotBelow(t *testing.T, s step, name string, was impl.Item, it impl.Item, has bool) {
	t.Helper()
	if !has || !versionsOf(was.Stamp).notAbove(versionsOf(it.Stamp)) {
		t.Fatalf("behind %+v %q shows %v, not %v, in\n%s", s.a, name, it, was, worldText(s.then))
	}
}

func TestPromise3VersionsDoNotGoDown(t *testing.T) {
	t.Parallel()
	rose, stood := 0, 0
	manyWorlds(3, 160, 60, allClimates, func() func(s step) {
		return func(s step) {
			for i, m := range s.w.Mills {
				then := s.then.Mills[i]
				if then.Disk.Down {
					continue
				}
				for _, cell := range m.Cells {
					now, there := cellOf(then, cell.Name)
					if !cell.Has || !there {
						continue
					}
					isNotBelow(t, s, cell.Name, cell.Out, now.Out, now.Has)
					up := !sameMarks(cell.Out.Stamp, now.Out.Stamp)
					rose += oneIf(up)
					stood += oneIf(!up)
				}
			}
		}
	})
	if rose < 500 || stood < 10000 {
		t.Error(rose, stood)
	}
}

// Forged words, old ones that come late, and others under versions that were shown: nothing goes down.
func TestPromise3AtTheEdges(t *testing.T) {
	w := worldOf(t, 3, "source 0 x", "source 0 y", "define 1 d x + y", "define 2 e d", "set x 1", "set y 1")
	for range 2 {
		w = goesRound(t, w)
	}
	for _, s := range []impl.Say{
		tell(0, 1, "x", 7, ver("x", 5)), tell(0, 1, "x", 8, ver("x", 4)), tell(0, 1, "x", 9, ver("x", 5)), tell(0, 1, "y", 7, ver("y", 3)), tell(2, 1, "y", 7, ver("x", 9), ver("y", 9)), tell(0, 1, "y", 7, ver("x", 1), ver("y", 9)), tell(0, 1, "y", 7, ver("z", 9)), tell(1, 2, "d", 1, ver("x", 1<<40)), tell(1, 2, "d", 1, ver("x", 1<<40), ver("y", 1<<40)), tell(1, 2, "d", 2, ver("x", 5), ver("y", 3)), tell(0, 1, "d", 2, ver("x", 5), ver("y", 3)),
	} {
		from := isDone(t, w, junkOf(s), impl.WorldDone)
		for at := len(from.Way) - 1; at >= 0; at-- {
			then, _ := impl.WorldDo(from, impl.Act{Kind: impl.ActGive, N: at})
			for _, name := range []string{"x", "y", "d", "e"} {
				was, ok := impl.WorldRead(from, name)
				it, has := impl.WorldRead(then, name)
				if ok {
					isNotBelow(t, step{then: then, a: junkOf(s)}, name, was, it, has)
				}
			}
			from = then
		}
		w = from
	}
	if got := worldShows(t, w); got != "x 1 x:1; y 1 y:1; d 14 x:5 y:3; e 1 x:1099511627776 y:1099511627776" {
		t.Error(got)
	}
}

// shownAt is what a signal of the register shows at home, without a look at all else. (That WorldRead tells this is held elsewhere.)
func shownAt(w impl.World, s impl.Sig) (impl.Item, bool) {
	c, _ := cellOf(w.Mills[s.Home], s.Name)
	return c.Out, c.Has
}

// canSettle tells whether each signal of the register is there at home, and each source that was set could be said.
func canSettle(w impl.World) bool {
	for _, s := range w.Reg.Sigs {
		c, there := cellOf(w.Mills[s.Home], s.Name)
		recs, _ := impl.LogRead(w.Mills[s.Home].Disk.Safe)
		if !there || c.Body != s.Body || c.Lent > 1<<40-8 || len(recs) > 150 || len(w.Mills[s.Home].Disk.Safe) > 7000 {
			return false
		}
	}
	return true
}

// settles holds that two rounds later each signal shows what it means at the last version of each source, and that this stays so; it tells how many signals show something.
func settles(t *testing.T, w impl.World) int {
	t.Helper()
	set := 0
	for round := 1; round <= 5; round++ {
		then, ok := impl.WorldFair(w)
		if !ok {
			t.Fatal(worldText(w))
		}
		w = then
		if round < 2 {
			continue
		}
		set = 0
		vals, last := []impl.Bind{}, versions{}
		for _, s := range w.Reg.Sigs {
			c, _ := cellOf(w.Mills[s.Home], s.Name)
			if s.Body == "" && c.Set {
				vals, last[s.Name] = append(vals, impl.Bind{Name: s.Name, Val: c.Val}), c.Ver
			}
		}
		for _, s := range w.Reg.Sigs {
			val, means := impl.RegMean(w.Reg, vals, s.Name)
			it, shows := shownAt(w, s)
			v := versions{}
			for _, src := range modelSources(w.Reg, s.Name) {
				v[src] = last[src]
			}
			if means != shows || shows && (it.Val != val || !sameMarks(it.Stamp, v.marks())) {
				t.Fatalf("behind %d rounds %q shows %v %v, not %v %d %v, in\n%s", round, s.Name, shows, it, means, val, v, worldText(w))
			}
			set += oneIf(shows && s.Body != "")
		}
		if !impl.WorldCalm(w) || len(w.Way) > 0 {
			t.Fatalf("behind %d rounds not calm:\n%s", round, worldText(w))
		}
	}
	return set
}

func TestPromise4TwoRoundsLater(t *testing.T) {
	t.Parallel()
	settled, lost, shown := 0, 0, 0
	manyWorlds(4, 160, 60, quiet, func() func(s step) {
		acts := 0
		return func(s step) {
			if acts++; acts%20 != 0 {
				return
			}
			w, ok := impl.WorldUp(s.then)
			if !ok {
				t.Fatal(worldText(s.then))
			}
			if !canSettle(w) {
				lost++
				return
			}
			settled++
			shown += settles(t, w)
		}
	})
	if settled < 300 || lost < 5 || shown < 800 {
		t.Error(settled, lost, shown)
	}
}

func TestPromise4AtTheEdges(t *testing.T) {
	// all kinds of layouts, with all that may be under way: nothing, much, and more than has room
	lines := []string{"source 0 x", "source 1 y", "define 2 a x + y", "define 3 b a + x", "define 4 c b + y", "define 0 d c + x", "define 1 e d + a", "define 2 f e + d + y", "set x 1", "set y 2"}
	w := worldOf(t, 5, lines...)
	if settles(t, w) != 6 {
		t.Error(worldText(w))
	}
	for node := range 5 {
		down := after(t, w, fmt.Sprintf("fall %d 0", node))
		settles(t, comesUp(t, down, true))
		half := goesRound(t, down)
		settles(t, comesUp(t, half, true))
		settles(t, comesUp(t, after(t, half, "fall "+fmt.Sprint((node+1)%5)+" 0"), true))
	}
	round := goesRound(t, w)
	for _, line := range []string{"set x 3", "tick 0", "tick 3"} {
		settles(t, filledWay(after(t, round, line), 300))
		settles(t, after(t, filledWay(round, 298), line))
	}
	for i := range 30 {
		round = after(t, round, fmt.Sprintf("set x %d", i), fmt.Sprintf("set y %d", i), "tick "+fmt.Sprint(i%5))
	}
	settles(t, round)
	// one that is not there at home hinders none that does not lean on it
	lost := after(t, worldOf(t, 2, "source 0 x", "set x 1"), "fuse 1 0")
	lost = isDone(t, lost, actOf("define 1 d x"), impl.WorldFell)
	lost = after(t, comesUp(t, lost, true), "define 0 e x + 1", "define 0 g d")
	lost = goesRound(t, goesRound(t, lost))
	if got := worldShows(t, lost); got != "x 1 x:1; e 2 x:1" {
		t.Error(got)
	}
	isSettled(t, lost, false)
}

// allows holds that a cell shows at least the versions of every choice of its windows that agrees.
func allows(t *testing.T, w impl.World, c impl.Cell) int {
	t.Helper()
	choices := agreeing(c.Wins)
	for _, pick := range choices {
		v, _ := merged(c.Wins, pick)
		if len(v) <= 12 && (!c.Has || !v.notAbove(versionsOf(c.Out.Stamp))) {
			t.Fatalf("%q shows %v, though %v of %v agree, in\n%s", c.Name, c.Out, pick, c.Wins, worldText(w))
		}
	}
	return len(choices)
}

func TestPromise6NeverBehindItsInputs(t *testing.T) {
	t.Parallel()
	agree, none := 0, 0
	manyWorlds(6, 200, 40, quiet, func() func(s step) {
		return func(s step) {
			for _, m := range s.then.Mills {
				for _, c := range m.Cells {
					if c.Body == "" {
						continue
					}
					n := allows(t, s.then, c)
					agree += oneIf(n > 1)
					none += oneIf(n == 0 && slices.ContainsFunc(c.Wins, func(win []impl.Item) bool { return len(win) > 0 }))
				}
			}
		}
	})
	if agree < 500 || none < 500 {
		t.Error(agree, none)
	}
}

// What is late for longer than a window lasts is waited for no more; what comes within it is taken at once, in each order.
func TestPromise6AtTheEdges(t *testing.T) {
	t.Parallel()
	w := worldOf(t, 3, "source 0 x", "define 1 d x * 2", "define 2 s d - x", "tick 1", "tick 2", "give 0", "give 0", "give 0")
	w = after(t, w, "set x 1", "set x 2")
	if len(w.Way) != 4 {
		t.Fatal(modelWay(w))
	}
	c := newChronicle()
	holdOne(t, w, c, func(w impl.World) {
		for _, m := range w.Mills {
			for _, cell := range m.Cells {
				if cell.Body != "" {
					allows(t, w, cell)
				}
			}
		}
	})
	// x is told to s nine times ahead of d, which then comes one by one: the last four still find their like
	w = worldOf(t, 3, "source 0 x", "define 1 d x * 2", "define 2 s d - x", "tick 1", "tick 2", "give 0", "give 0", "give 0")
	for val := range 9 {
		w = after(t, w, fmt.Sprintf("set x %d", val), fmt.Sprintf("give %d", len(w.Way)+1))
	}
	var at []string
	for range 9 {
		w = after(t, w, "give 0", fmt.Sprintf("give %d", len(w.Way)-1))
		it, _ := impl.WorldRead(w, "s")
		at = append(at, modelStampText(it.Stamp))
	}
	if got := strings.Join(at, " "); got != "- - - - - x:6 x:7 x:8 x:9" {
		t.Error(got)
	}
}

func TestPromise7BytesThatAreNoWord(t *testing.T) {
	t.Parallel()
	r := rand.New(rand.NewSource(107))
	held := 0
	manyWorlds(7, 90, 40, quiet, func() func(s step) {
		return func(s step) {
			w := s.then
			raw := randomRaw(r, w, climate{noise: true})
			with, code := impl.WorldDo(w, impl.Act{Kind: impl.ActJunk, Raw: raw})
			if code != impl.WorldDone || !sameMills(with.Mills, w.Mills) || !sameReg(with.Reg, w.Reg) || !sameWay(with.Way, append(slices.Clone(w.Way), raw)) {
				t.Fatalf("%q in\n%s\nis %d\n%s", raw, worldText(w), code, worldText(with))
			}
			// wherever it is under way
			at := r.Intn(len(w.Way) + 1)
			with.Way = slices.Insert(slices.Clone(w.Way), at, raw)
			if then, code := impl.WorldDo(with, impl.Act{Kind: impl.ActGive, N: at}); code != impl.WorldNot || !sameWorld(then, w) {
				t.Fatalf("%q in\n%s\nis given as %d\n%s", raw, worldText(w), code, worldText(then))
			}
			if held++; held%6 > 0 {
				return
			}
			round, _ := impl.WorldFair(with)
			plain, _ := impl.WorldFair(w)
			if !sameWorld(round, plain) || impl.WorldCalm(with) != impl.WorldCalm(w) || !sameMarks(impl.WorldLast(with), impl.WorldLast(w)) {
				t.Fatalf("%q in\n%s", raw, worldText(w))
			}
			for _, name := range sigNames(w.Reg) {
				one, ok := impl.WorldRead(with, name)
				if two, okToo := impl.WorldRead(w, name); ok != okToo || !sameItem(one, two) {
					t.Fatalf("%q in\n%s", raw, worldText(w))
				}
			}
		}
	})
}

func TestPromise7AtTheEdges(t *testing.T) {
	w := busyWorld(t)
	words := w.Way
	for _, word := range words {
		for end := range len(word) {
			isLostWhenGiven(t, w, word[:end])
		}
		for at := range word {
			for _, by := range []byte{1, 128, 255} {
				bent := slices.Clone(word)
				bent[at] += by
				if _, ok := modelSayRead(string(bent)); !ok {
					isLostWhenGiven(t, w, bent)
				}
			}
		}
		isLostWhenGiven(t, w, append(slices.Clone(word), 0))
	}
	for _, n := range []int{0, 1, 259, 260} {
		isLostWhenGiven(t, w, make([]byte, n))
	}
	// where there is no room for them they are not taken, and where they take the last room words are lost
	isRefused(t, filledWay(w, 300), actOf("junk z"), "room")
	then := after(t, filledWay(w, 299), "junk z", "set x 9")
	if len(then.Way) != 300 || string(then.Way[299]) != "z" {
		t.Error(modelWay(then))
	}
}

func isLostWhenGiven(t *testing.T, w impl.World, raw []byte) {
	t.Helper()
	with, code := impl.WorldDo(w, impl.Act{Kind: impl.ActJunk, Raw: raw})
	then, not := impl.WorldDo(with, impl.Act{Kind: impl.ActGive, N: len(w.Way)})
	if code != impl.WorldDone || not != impl.WorldNot || !sameWorld(then, w) || !sameMills(with.Mills, w.Mills) {
		t.Errorf("%q: %d, %d\n%s", raw, code, not, worldText(then))
	}
}

// isBounded holds what nodes hold.
func isBounded(t *testing.T, w impl.World) [4]int {
	t.Helper()
	var most [4]int
	for _, m := range w.Mills {
		most[1] += len(m.Cells) * (len(w.Mills) - 1)
		most[2] += len(m.Cells)
		for i, s := range m.Subs {
			if _, there := cellOf(m, s.Name); !there || s.Peer == m.Home || s.Peer >= len(w.Mills) || slices.ContainsFunc(m.Subs[:i], func(other impl.Sub) bool { return other.Name == s.Name && other.Peer == s.Peer }) {
				t.Fatalf("%v in %s", s, millText(m))
			}
		}
		for _, c := range m.Cells {
			most[0] += 4 * len(c.Ins)
			if len(c.Wins) != len(c.Ins) || slices.ContainsFunc(c.Wins, func(win []impl.Item) bool { return len(win) > 4 }) {
				t.Fatalf("%+v", c)
			}
		}
	}
	most[3] = 300
	for i, n := range countOf(w) {
		if n > most[i] {
			t.Fatalf("%v, at most %v, in\n%s", countOf(w), most, worldText(w))
		}
	}
	return most
}

func TestPromise9WhatNodesHold(t *testing.T) {
	t.Parallel()
	steps := 0
	manyWorlds(9, 90, 60, allClimates, func() func(s step) {
		return func(s step) {
			isBounded(t, s.then)
			if steps++; steps%30 == 0 {
				round, _ := impl.WorldFair(s.then)
				isBounded(t, round)
			}
		}
	})
}

// Whatever comes, and however much of it: each bound is met exactly, and not passed.
func TestPromise9AtTheEdges(t *testing.T) {
	w := worldOf(t, 5, "source 0 x", "source 1 y", "define 2 a x + y", "define 3 b x + y + a", "set x 1", "set y 1")
	for n := range 40 {
		for to := range 5 {
			for _, name := range []string{"x", "y", "a", "b", "none"} {
				from := (to + 1 + n%4) % 5
				stamp := []impl.Ver{ver("x", n+1), ver("y", n+1)}
				if name == "x" || name == "y" {
					stamp = []impl.Ver{ver(name, n+1)}
				}
				for _, s := range []impl.Say{ask(from, to, name), tell(from, to, name, n, stamp...), gone(from, to, name)} {
					w, _ = impl.WorldDo(w, junkOf(s))
					w, _ = impl.WorldDo(w, impl.Act{Kind: impl.ActGive, N: len(w.Way) - 1})
				}
			}
		}
		most := isBounded(t, w)
		if n > 5 && countOf(w) != [4]int{most[0], most[1], most[2], min(300, len(w.Way))} {
			t.Fatal(n, countOf(w), most)
		}
	}
	if len(w.Way) < 299 {
		t.Error(len(w.Way))
	}
	isBounded(t, goesRound(t, w))
}

func TestPromise13WordsThatAreLostOrDoubled(t *testing.T) {
	t.Parallel()
	lost, never, doubled := 0, 0, 0
	manyWorlds(13, 60, 60, allClimates, func() func(s step) {
		return func(s step) {
			// an act whose words are lost is like one whose words had no room
			if s.a.Kind == impl.ActSet || s.a.Kind == impl.ActTick {
				then := copyOfWorld(s.then)
				for len(then.Way) > len(s.w.Way) {
					next, code := impl.WorldDo(then, impl.Act{Kind: impl.ActLose, N: len(s.w.Way)})
					if code != impl.WorldDone {
						t.Fatal(code)
					}
					then = next
					lost++
				}
				mute, _ := impl.WorldDo(filledWay(s.w, 300), s.a)
				mute.Way = mute.Way[:len(s.w.Way)]
				if !sameWorld(then, mute) {
					t.Fatalf("%+v at\n%s\nleaves\n%s\nnot\n%s", s.a, worldText(s.w), worldText(then), worldText(mute))
				}
				never++
			}
			if len(s.then.Way) == 0 || s.a.Kind == impl.ActGive {
				return
			}
			doubled++
			isDoubled(t, s.then, doubled%len(s.then.Way))
		}
	})
	if lost < 300 || never < 500 || doubled < 500 {
		t.Error(lost, never, doubled)
	}
}

// isDoubled holds that a copy is the same word behind all others: given without the first one it does what that does.
func isDoubled(t *testing.T, w impl.World, at int) {
	t.Helper()
	with, code := impl.WorldDo(w, impl.Act{Kind: impl.ActCopy, N: at})
	same, _ := impl.WorldDo(w, impl.Act{Kind: impl.ActJunk, Raw: w.Way[at]})
	if code != impl.WorldDone || !sameWorld(with, same) || !sameWay(with.Way, append(slices.Clone(w.Way), w.Way[at])) {
		t.Fatalf("%d of\n%s\nis doubled as\n%s", at, worldText(w), worldText(with))
	}
	first, one := impl.WorldDo(w, impl.Act{Kind: impl.ActGive, N: at})
	second, two := impl.WorldDo(with, impl.Act{Kind: impl.ActGive, N: len(w.Way)})
	if one != two || !sameMills(first.Mills, second.Mills) {
		t.Fatalf("%d of\n%s\nis given as %d\n%s\nand %d\n%s", at, worldText(w), one, worldText(first), two, worldText(second))
	}
	if back, _ := impl.WorldDo(with, impl.Act{Kind: impl.ActLose, N: len(w.Way)}); !sameWorld(back, w) {
		t.Fatalf("%d of\n%s", at, worldText(w))
	}
	// of the two words that are alike it does not matter which one is lost, but for the order of what is left
	other, _ := impl.WorldDo(with, impl.Act{Kind: impl.ActLose, N: at})
	if !sameMills(other.Mills, w.Mills) || !sameWay(other.Way, append(slices.Delete(slices.Clone(w.Way), at, at+1), w.Way[at])) {
		t.Fatalf("%d of\n%s", at, worldText(w))
	}
}

func TestPromise13AtTheEdges(t *testing.T) {
	w := busyWorld(t)
	for at := range w.Way {
		isDoubled(t, w, at)
	}
	// two rounds on, nobody can tell that a word was doubled
	plain := goesRound(t, goesRound(t, w))
	for at := range w.Way {
		doubled := goesRound(t, goesRound(t, after(t, w, fmt.Sprintf("copy %d", at))))
		if worldShows(t, doubled) != worldShows(t, plain) {
			t.Error(worldShows(t, doubled))
		}
	}
	for _, at := range []int{-1, len(w.Way), most, least} {
		isRefused(t, w, impl.Act{Kind: impl.ActLose, N: at}, "place")
		isRefused(t, w, impl.Act{Kind: impl.ActCopy, N: at}, "place")
	}
	isRefused(t, filledWay(w, 300), actOf("copy 0"), "room")
	all := w
	for range w.Way {
		all = after(t, all, "lose 0")
	}
	if len(all.Way) > 0 || !sameMills(all.Mills, w.Mills) || !sameReg(all.Reg, w.Reg) {
		t.Error(worldText(all))
	}
}

func TestPromise14AWorldIsItsActs(t *testing.T) {
	t.Parallel()
	r := rand.New(rand.NewSource(14))
	for n := range 60 {
		steps := noted(r, 40+r.Intn(81), allClimates[n%len(allClimates)])
		nodes := len(steps[0].w.Mills)
		var acts []impl.Act
		var codes []int
		for i, s := range steps {
			acts, codes = append(acts, s.a), append(codes, s.code)
			if i%10 > 0 && i+1 < len(steps) {
				continue
			}
			if w, got := impl.WorldPlay(nodes, acts); !slices.Equal(got, codes) || !sameWorld(w, s.then) {
				t.Fatalf("%+v: %v, not %v:\n%s\nnot\n%s", acts, got, codes, worldText(w), worldText(s.then))
			}
		}
	}
}

func TestPromise14TextsBegin(t *testing.T) {
	t.Parallel()
	r := rand.New(rand.NewSource(114))
	for range 60 {
		lines := strings.Split(randomText(r, r.Intn(110)), "\n")
		lines = append(lines[:len(lines)/2], append([]string{"", " ", "?"}, lines[len(lines)/2:]...)...)
		whole, had := impl.HeadRun(strings.Join(lines, "\n")), ""
		for end := range len(lines) + 1 {
			beginning := strings.Join(lines[:end], "\n")
			told := impl.HeadRun(beginning)
			if !strings.HasPrefix(whole, told) || !strings.HasPrefix(told, had) || strings.Count(told, "\n") != len(strings.FieldsFunc(beginning, func(r rune) bool { return r == 10 })) {
				t.Fatalf("%q tells\n%q, its beginning %q\n%q", lines, whole, beginning, told)
			}
			if told != impl.HeadRun(beginning+"\n") {
				t.Fatalf("%q", beginning)
			}
			had = told
		}
	}
	// one that is too long tells something else
	text := strings.Repeat("way\n", 119) + "way"
	if got := impl.HeadRun(text); got != strings.Repeat("-\n", 120) || impl.HeadRun(text+"\nway") != "long\n" {
		t.Error(got)
	}
}

// ownSignals are those of the register whose inputs, and theirs, are all cells of one node.
func ownSignals(w impl.World) []impl.Sig {
	var own []impl.Sig
	isOwn := map[string]int{}
	for _, s := range w.Reg.Sigs {
		_, there := cellOf(w.Mills[s.Home], s.Name)
		for _, in := range bodyIns(s.Body) {
			there = there && isOwn[in] == s.Home+1
		}
		if there {
			isOwn[s.Name] = s.Home + 1
			own = append(own, s)
		}
	}
	return own
}

// isNeverLate holds that each signal that its node can reckon by itself shows what it means now.
func isNeverLate(t *testing.T, w impl.World) int {
	t.Helper()
	seen := 0
	for _, s := range ownSignals(w) {
		var b []impl.Bind
		v := versions{}
		for _, src := range modelSources(w.Reg, s.Name) {
			if it, ok := shownAt(w, impl.Sig{Name: src, Home: s.Home}); ok {
				b = append(b, impl.Bind{Name: src, Val: it.Val})
				v[src] = it.Stamp[0].Ver
			}
		}
		val, means := impl.RegMean(w.Reg, b, s.Name)
		it, shows := shownAt(w, s)
		if means != shows || shows && (it.Val != val || !sameMarks(it.Stamp, v.marks())) {
			t.Fatalf("%q shows %v %v, not %v %d %v, in\n%s", s.Name, shows, it, means, val, v, worldText(w))
		}
		seen += oneIf(shows && s.Body != "")
	}
	return seen
}

func TestPromise48NeverLateAtHome(t *testing.T) {
	t.Parallel()
	seen := 0
	manyWorlds(48, 100, 60, quiet, func() func(s step) {
		return func(s step) {
			seen += isNeverLate(t, s.then)
		}
	})
	if seen < 1000 {
		t.Error(seen)
	}
}

func TestPromise48AtTheEdges(t *testing.T) {
	w := worldOf(t, 2, "source 0 x", "source 0 y", "define 0 a x + y", "define 0 b a * x", "define 0 c b - a + y", "define 0 far2 x", "define 1 away x", "define 0 d away + x")
	seen := 0
	for i, line := range []string{"set x 1", "set y 2", "set x 3", "tick 0", "set y 4", "fall 0 0", "rise 0 -1", "set y 5", "tick 0", "set x 6", "fuse 0 400", "set x 7", "define 0 e c + b + a + x", "remove e", "define 0 g c", "tick 1", "give 0", "set x 8", "junk z", "lose 0", "copy 0"} {
		w = after(t, w, line)
		n := isNeverLate(t, w)
		seen += n
		if i == 7 && n != 0 || i == 8 && n != 4 {
			t.Error(i, n)
		}
	}
	if seen < 50 {
		t.Error(seen)
	}
	// what goes by another node may be late, even if its sources are at home
	if it, ok := impl.WorldRead(w, "d"); ok {
		t.Error(it)
	}
	w = after(t, w, "fuse 0 -1")
	for n := range 20 {
		w = after(t, w, fmt.Sprintf("set x %d", n), fmt.Sprintf("set y %d", -n))
		isNeverLate(t, w)
	}
}

func TestPromise49WhatIsUnderWay(t *testing.T) {
	t.Parallel()
	seen, wide := 0, 0
	manyWorlds(49, 200, 60, []climate{{}, {falls: true}}, func() func(s step) {
		c := newChronicle()
		return func(s step) {
			c.note(t, s.then)
			for _, word := range tellsUnderWay(s.then) {
				c.isTrue(t, s.then, word.Name, impl.Item{Val: word.Val, Stamp: marksOf(word.Stamp)})
				seen++
				wide += oneIf(len(word.Stamp) > 1)
			}
		}
	})
	if seen < 10000 || wide < 1000 {
		t.Error(seen, wide)
	}
}

func TestPromise49AtTheEdges(t *testing.T) {
	c := newChronicle()
	w := worldOf(t, 3, "source 0 x", "source 1 y", "define 1 a x + y", "define 2 b a - x", "define 0 c b + y", "define 2 s "+spentBody)
	for _, line := range strings.Split("set x -9223372036854775808|set y 9223372036854775807|tick 0|tick 1|tick 2|set x 1|set y -1", "|") {
		w = after(t, w, line)
		for len(w.Way) > 0 {
			c.note(t, w)
			for _, word := range tellsUnderWay(w) {
				c.isTrue(t, w, word.Name, impl.Item{Val: word.Val, Stamp: marksOf(word.Stamp)})
			}
			w, _ = impl.WorldDo(w, impl.Act{Kind: impl.ActGive, N: len(w.Way) - 1})
		}
	}
	if len(c.said["x"]) != 2 || len(c.said["y"]) != 2 {
		t.Error(c.said)
	}
	// words of what is no more, or whose node fell, stay true
	w = after(t, w, "set x 5", "set y 5", "fall 0 0", "fall 1 0", "remove s")
	c.note(t, w)
	if len(tellsUnderWay(w)) < 2 {
		t.Error(modelWay(w))
	}
	for _, word := range tellsUnderWay(w) {
		c.isTrue(t, w, word.Name, impl.Item{Val: word.Val, Stamp: marksOf(word.Stamp)})
	}
}

func TestPromise50EverySourceAndNoOther(t *testing.T) {
	t.Parallel()
	seen := 0
	manyWorlds(50, 80, 60, quiet, func() func(s step) {
		return func(s step) {
			for _, sig := range s.then.Reg.Sigs {
				it, ok := shownAt(s.then, sig)
				if !ok {
					continue
				}
				hasItsSources(t, s.then, sig.Name, it)
				seen += oneIf(sig.Body != "")
			}
		}
	})
	if seen < 2000 {
		t.Error(seen)
	}
}

func hasItsSources(t *testing.T, w impl.World, name string, it impl.Item) {
	t.Helper()
	want := impl.RegSources(w.Reg, name)
	if len(it.Stamp) != len(want) {
		t.Fatalf("%q shows %v, not of %q, in\n%s", name, it, want, worldText(w))
	}
	for i, m := range it.Stamp {
		if m.Src != want[i] || m.Ver < 1 {
			t.Fatalf("%q shows %v, not of %q, in\n%s", name, it, want, worldText(w))
		}
	}
}

// As many sources as may go into a signal, over several nodes.
func TestPromise50AtTheEdges(t *testing.T) {
	w := newWorld(t, 5)
	names := numbered("n", 12)
	for i, name := range names {
		w = after(t, w, fmt.Sprintf("source %d %s", i%5, name))
	}
	w = after(t, w, "define 0 a n00 + n01 + n02 + n03", "define 1 b a + n04 + n05 + n06", "define 2 c b + n07 + n08 + n09", "define 3 d c + n10 + n11")
	for i, name := range names {
		w = goesRound(t, after(t, w, fmt.Sprintf("set %s %d", name, i)))
		for _, sig := range w.Reg.Sigs {
			it, ok := impl.WorldRead(w, sig.Name)
			if all := impl.RegSources(w.Reg, sig.Name); ok != (all[len(all)-1] <= name) {
				t.Error(sig.Name, name, ok)
			}
			if ok {
				hasItsSources(t, w, sig.Name, it)
			}
		}
	}
	if it, _ := impl.WorldRead(w, "d"); len(it.Stamp) != 12 || it.Val != 66 {
		t.Error(it)
	}
	isRefused(t, w, actOf("define 4 e d + none"), "reg")
}

func TestPromise51EvenIfAllWordsAreLost(t *testing.T) {
	t.Parallel()
	settled, lost, shown := 0, 0, 0
	manyWorlds(51, 120, 60, quiet, func() func(s step) {
		acts := 0
		return func(s step) {
			if acts++; acts%20 != 0 {
				return
			}
			w := s.then
			for len(w.Way) > 0 {
				w, _ = impl.WorldDo(w, impl.Act{Kind: impl.ActLose})
				lost++
			}
			w, ok := impl.WorldUp(w)
			if !ok {
				t.Fatal(worldText(s.then))
			}
			if !canSettle(w) {
				return
			}
			settled++
			shown += settles(t, w)
		}
	})
	if settled < 250 || lost < 500 || shown < 600 {
		t.Error(settled, lost, shown)
	}
}

// Words are lost behind each act: only what is said in the two rounds counts.
func TestPromise51AtTheEdges(t *testing.T) {
	w := newWorld(t, 5)
	for _, line := range []string{"source 0 x", "source 1 y", "define 2 a x + y", "define 3 b a + x", "define 4 c b + y", "define 0 d c + x", "define 1 e d + a", "set x 1", "set y 2", "tick 0", "tick 1", "tick 2", "tick 3", "tick 4", "set x 3", "fall 2 0", "tick 1", "set y 4", "rise 2 -1", "set x 5"} {
		w = after(t, w, line)
		for len(w.Way) > 0 {
			w = after(t, w, "lose 0")
		}
		if up := comesUp(t, w, true); len(up.Way) == 0 {
			settles(t, up)
		}
	}
	if settles(t, w) != 5 {
		t.Error(worldText(w))
	}
}

func TestPromise52InEitherOrder(t *testing.T) {
	t.Parallel()
	r := rand.New(rand.NewSource(152))
	pairs, changed := 0, 0
	manyWorlds(52, 60, 60, allClimates, func() func(s step) {
		return func(s step) {
			w := s.then
			for range min(3, len(w.Way)) {
				i, j := r.Intn(len(w.Way)), r.Intn(len(w.Way))
				one, okOne := modelSayRead(string(w.Way[i]))
				two, okTwo := modelSayRead(string(w.Way[j]))
				if i == j || !okOne || !okTwo || one.To == two.To {
					continue
				}
				pairs++
				changed += oneIf(inEitherOrder(t, w, i, j))
			}
		}
	})
	if pairs < 500 || changed < 100 {
		t.Error(pairs, changed)
	}
}

// inEitherOrder holds that two words that are given in either order leave the same nodes, and tells whether both changed something.
func inEitherOrder(t *testing.T, w impl.World, i, j int) bool {
	t.Helper()
	give := func(w impl.World, at int) impl.World {
		then, _ := impl.WorldDo(w, impl.Act{Kind: impl.ActGive, N: at})
		return then
	}
	one, two := give(w, i), give(w, j)
	a := give(one, j-oneIf(i < j))
	b := give(two, i-oneIf(j < i))
	if !sameMills(a.Mills, b.Mills) {
		t.Fatalf("%d and %d of\n%s\nleave\n%s\nor\n%s", i, j, worldText(w), worldText(a), worldText(b))
	}
	return !sameMills(one.Mills, w.Mills) && !sameMills(two.Mills, w.Mills)
}

func TestPromise52AtTheEdges(t *testing.T) {
	w := busyWorld(t)
	for _, from := range []impl.World{w, filledWay(w, 300), after(t, w, "tick 0", "tick 1", "tick 2")} {
		for i, b := range from.Way[:min(len(from.Way), 20)] {
			for j, other := range from.Way[:i] {
				one, okOne := modelSayRead(string(b))
				two, okTwo := modelSayRead(string(other))
				if okOne && okTwo && one.To != two.To {
					inEitherOrder(t, from, i, j)
				}
			}
		}
	}
	// to nodes that are down, or are not there, too
	for _, s := range []impl.Say{ask(0, 3, "w"), ask(0, 4, "x"), ask(9, 2, "s"), gone(1, 2, "s"), ask(1, 2, "s"), tell(0, 2, "x", 1, ver("x", 9))} {
		from := isDone(t, w, junkOf(s), impl.WorldDone)
		for i, b := range w.Way {
			if other, ok := modelSayRead(string(b)); ok && other.To != s.To {
				inEitherOrder(t, from, i, len(w.Way))
			}
		}
	}
}

// leavesAlone are the kinds that change nothing where they are not done.
var leavesAlone = []int{impl.ActDefine, impl.ActRemove, impl.ActLose, impl.ActCopy, impl.ActJunk, impl.ActFuse, impl.ActFall, impl.ActRise}

func TestPromise55WhatIsNotDone(t *testing.T) {
	t.Parallel()
	r := rand.New(rand.NewSource(155))
	var not [12]int
	manyWorlds(55, 60, 60, allClimates, func() func(s step) {
		return func(s step) {
			for range 3 {
				a := impl.Act{Kind: leavesAlone[r.Intn(len(leavesAlone))], Node: r.Intn(7) - 1, Name: someName(r, s.w, false), N: r.Intn(8) - 2}
				if r.Intn(2) == 0 {
					a.Text = smallBody(r, worldNames)
				}
				if r.Intn(3) == 0 {
					a.N, a.Raw = []int{401, most, least, len(s.w.Way), 300}[r.Intn(5)], make([]byte, 250+r.Intn(20))
				}
				then, code := impl.WorldDo(s.w, a)
				if code == impl.WorldNot && !sameWorld(then, s.w) {
					t.Fatalf("%+v at\n%s\nleaves\n%s", a, worldText(s.w), worldText(then))
				}
				not[a.Kind] += oneIf(code == impl.WorldNot)
			}
		}
	})
	for _, kind := range leavesAlone {
		if not[kind] < 100 {
			t.Error(kind, not)
		}
	}
}

// The same of worlds whose nodes know other things than the register, and of ones in which there is no room.
func TestPromise55OfAnyWorlds(t *testing.T) {
	t.Parallel()
	r := rand.New(rand.NewSource(255))
	not, done := 0, 0
	for n := range 100 {
		w := impl.World{Reg: randomReg(r, r.Intn(17))}
		for home := range 2 + r.Intn(4) {
			m := anyMill(r)
			for m.Home != home {
				m = anyMill(r)
			}
			if r.Intn(5) == 0 {
				m = impl.Mill{Home: home, Disk: lying(string(m.Disk.Safe) + someBytes(r, r.Intn(4))).disk()}
			}
			w.Mills = append(w.Mills, m)
		}
		if n%4 == 0 {
			w = filledWay(w, 298+r.Intn(3))
		}
		if !impl.WorldOk(w) {
			t.Fatal(wrongInWorld(w))
		}
		for range 12 {
			names := slices.Concat(sigNames(w.Reg), cellNames, w.Reg.Gone)
			a := impl.Act{Kind: leavesAlone[r.Intn(len(leavesAlone))], Node: r.Intn(6) - 1 + oneIf(r.Intn(2) == 0), Name: names[r.Intn(len(names))], N: r.Intn(6) - 2, Raw: make([]byte, 255+r.Intn(8))}
			if r.Intn(2) == 0 {
				a.Text = smallBody(r, append(sigNames(w.Reg), "x"))
			}
			then, code := impl.WorldDo(w, a)
			if code == impl.WorldNot && !sameWorld(then, w) {
				t.Fatalf("%+v at\n%s\nleaves\n%s", a, worldText(w), worldText(then))
			}
			model, modelCode := modelDo(w, a)
			if code != modelCode || !sameWorld(then, model) {
				t.Fatalf("%+v at\n%s\nis %d\n%s\nnot %d\n%s", a, worldText(w), code, worldText(then), modelCode, worldText(model))
			}
			not += oneIf(code == impl.WorldNot)
			done += oneIf(code == impl.WorldDone)
		}
	}
	if not < 300 || done < 100 {
		t.Error(not, done)
	}
}
