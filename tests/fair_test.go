package tests

import (
	"fmt"
	"math/rand"
	"slices"
	"strings"
	"testing"

	"loop.example/headrace/impl"
)

// comesUp holds WorldUp against the model.
func comesUp(t *testing.T, w impl.World, want bool) impl.World {
	t.Helper()
	then, ok := impl.WorldUp(w)
	model, modelOk := modelUp(w)
	if ok != want || ok != modelOk || !sameWorld(then, model) {
		t.Errorf("%s\ncomes up as %v\n%s\nnot %v\n%s", worldText(w), ok, worldText(then), want, worldText(model))
	}
	if !ok && !sameWorld(then, impl.World{}) {
		t.Error(worldText(then))
	}
	return then
}

// goesRound holds WorldFair against the model; behind it nothing is under way.
func goesRound(t *testing.T, w impl.World) impl.World {
	t.Helper()
	then, ok := impl.WorldFair(w)
	model, modelOk := modelFair(w)
	if !ok || !modelOk || !sameWorld(then, model) || len(then.Way) > 0 || !impl.WorldOk(then) {
		t.Errorf("%s\ncomes round as %v\n%s\nnot %v\n%s", worldText(w), ok, worldText(then), modelOk, worldText(model))
	}
	return then
}

// isSettled holds WorldCalm against the model, WorldLast and WorldCount, too.
func isSettled(t *testing.T, w impl.World, want bool) {
	t.Helper()
	if got := impl.WorldCalm(w); got != want || modelCalm(w) != want {
		t.Errorf("%s\nis calm: %v", worldText(w), got)
	}
	countsAndLast(t, w)
}

func countsAndLast(t *testing.T, w impl.World) []impl.Mark {
	t.Helper()
	last := impl.WorldLast(w)
	if want := modelLast(w); !sameMarks(last, want) {
		t.Errorf("%s\n%v, not %v", worldText(w), last, want)
	}
	if got, want := countOf(w), modelCount(w); got != want {
		t.Errorf("%s\n%v, not %v", worldText(w), got, want)
	}
	return last
}

func TestWorldsComeUp(t *testing.T) {
	for nodes := 2; nodes <= 5; nodes++ {
		comesUp(t, newWorld(t, nodes), true)
	}
	w := busyWorld(t)
	then := comesUp(t, w, true)
	if m := then.Mills[3]; m.Disk.Down || len(m.Cells) != 2 || then.Mills[1].Disk.Fuse != -1 || !sameWay(then.Way, w.Way) || !sameReg(then.Reg, w.Reg) || !sameMill(then.Mills[0], w.Mills[0]) {
		t.Error(worldText(then))
	}
	if again := comesUp(t, then, true); !sameWorld(again, then) {
		t.Error(worldText(again))
	}
	all := after(t, w, "fall 0 0", "fall 1 0", "fall 2 0")
	then = comesUp(t, all, true)
	for i, m := range then.Mills {
		if m.Disk.Down || m.Disk.Fuse != -1 || len(m.Cells) != 2 || shownText(m) != "" || len(m.Subs) > 0 || m.Home != i {
			t.Error(worldText(then))
		}
	}
	// fuses go, whatever they are
	for _, fuse := range []int{-1, 0, 1, 400} {
		for node := range 3 {
			then := comesUp(t, after(t, w, fmt.Sprintf("fuse %d %d", node, fuse)), true)
			if slices.ContainsFunc(then.Mills, func(m impl.Mill) bool { return m.Disk.Fuse != -1 || m.Disk.Down }) {
				t.Error(worldText(then))
			}
		}
	}
}

// A log that is torn anywhere comes up, as there is no fuse; what is no book does not, and then nothing does.
func TestWorldsThatDoNotComeUp(t *testing.T) {
	w := busyWorld(t)
	all := string(w.Mills[0].Disk.Safe)
	for end := range len(all) + 1 {
		comesUp(t, withMill(w, impl.Mill{Home: 0, Disk: lying(all[:end]).disk()}), true)
	}
	for node := range 4 {
		for _, l := range [][]impl.Rec{{value("x", 1)}, {define("x", ""), define("x", "")}, {remove("x")}} {
			bad := withMill(w, impl.Mill{Home: node, Disk: lying(joined(l)).disk()})
			comesUp(t, bad, false)
			comesUp(t, after(t, withMill(newWorld(t, 4), bad.Mills[node]), "source "+fmt.Sprint((node+1)%4)+" k"), false)
		}
	}
	comesUp(t, impl.World{}, false)
}

func TestFairRounds(t *testing.T) {
	for nodes := 2; nodes <= 5; nodes++ {
		if w := newWorld(t, nodes); !sameWorld(goesRound(t, w), w) {
			t.Error(nodes)
		}
	}
	// all that is under way comes first, then the ticks, then what they said
	w := worldOf(t, 3, "source 0 x", "define 1 d x * 2", "define 2 e d + x", "set x 5")
	then := goesRound(t, w)
	if got := worldShows(t, then); got != "x 5 x:1; d 10 x:1; e 15 x:1" {
		t.Error(got)
	}
	isSettled(t, w, false)
	isSettled(t, then, true)
	// a round is a tick: wishes grow old where nobody asks
	then = after(t, then, "remove e", "remove d")
	for round := 1; round <= 4; round++ {
		then = goesRound(t, then)
		if got := countOf(then)[1]; got != 2*oneIf(round < 3) {
			t.Error(round, got)
		}
	}
	// who is down takes nothing and does not tick
	w = busyWorld(t)
	then = goesRound(t, w)
	if !then.Mills[3].Disk.Down {
		t.Error(worldText(then))
	}
	if got := worldShows(t, then); got != "x 6 x:2; y 8 y:2; s 14 x:2 y:2; d 12 x:2; e 20 x:2 y:2" {
		t.Error(got)
	}
	isSettled(t, then, true)
	if up := goesRound(t, comesUp(t, then, true)); worldShows(t, up) != "x 6 x:2; y 8 y:2; s 14 x:2 y:2; d 12 x:2; e 20 x:2 y:2; w 1 w:9; g 15 w:9 x:2 y:2" {
		t.Error(worldShows(t, up))
	}
	down := after(t, w, "fall 0 0", "fall 1 0", "fall 2 0")
	then = goesRound(t, down)
	if !sameMills(then.Mills, down.Mills) {
		t.Error(worldText(then))
	}
}

// A node whose fuse ends within a round falls, and the others go on.
func TestFairRoundsInWhichNodesFall(t *testing.T) {
	size := len(modelRecBytes(lend("x", 16)))
	for fuse := range size + 3 {
		w := after(t, worldOf(t, 3, "source 0 x", "source 1 y", "define 2 s x + y", "define 1 d x", "set x 5", "set y 6", "fall 0 0"), fmt.Sprintf("rise 0 %d", fuse))
		then := goesRound(t, w)
		if fell := then.Mills[0].Disk.Down; fell != (fuse <= size) {
			t.Errorf("fuse %d: %s", fuse, worldText(then))
		}
		want := "x 5 x:9; y 6 y:1; s 11 x:9 y:1; d 5 x:9"
		if fuse <= size {
			want = "y 6 y:1"
		}
		if got := worldShows(t, then); got != want {
			t.Errorf("fuse %d: %q", fuse, got)
		}
		isSettled(t, then, true)
		isSettled(t, goesRound(t, goesRound(t, comesUp(t, then, true))), true)
	}
}

// Much is under way, also more than has room.
func TestFairRoundsWithMuchUnderWay(t *testing.T) {
	// sixteen signals at two nodes, of which each wants all of the other: one value makes many words
	lines := []string{"source 0 x"}
	for i := range 7 {
		lines = append(lines, fmt.Sprintf("define 0 a%d x + %d", i, i), fmt.Sprintf("define 1 b%d a%d + x", i, i))
	}
	w := worldOf(t, 2, append(lines, "set x 1")...)
	w = goesRound(t, w)
	if countOf(w)[1] != 8 {
		t.Error(countOf(w))
	}
	for val := range 40 {
		w = after(t, w, fmt.Sprintf("set x %d", val))
	}
	if len(w.Way) != 300 {
		t.Fatal(len(w.Way))
	}
	then := goesRound(t, w)
	isSettled(t, then, true)
	if it, ok := impl.WorldRead(then, "b6"); !ok || it.Val != 39+6+39 {
		t.Error(it)
	}
	// each of three hundred askings is answered; what has no room is lost
	for _, name := range []string{"x", "a0", "none"} {
		asks := copyOfWorld(w)
		asks.Way = slices.Repeat([][]byte{[]byte(modelSayBytes(ask(1, 0, name)))}, 300)
		isSettled(t, goesRound(t, asks), true)
	}
	// newer and newer values, each of which goes on to five nodes' signals
	wide := worldOf(t, 5, "source 0 x", "define 1 a x", "define 2 b x + a", "define 3 c x + b", "define 4 d a + b + c", "define 0 e d + x", "set x 1")
	wide = goesRound(t, wide)
	forged := copyOfWorld(wide)
	for v := range 300 {
		to := 1 + v%4
		forged.Way = append(forged.Way, []byte(modelSayBytes(tell(0, to, "x", v, ver("x", 2+v/4)))))
	}
	then = goesRound(t, forged)
	isSettled(t, then, false)
	if it, _ := impl.WorldRead(then, "d"); impl.StampGet(it.Stamp, "x") != 2+299/4 {
		t.Error(it)
	}
	// bytes that are no words are lost
	noise := filledWay(wide, 300)
	if !sameWorld(goesRound(t, noise), goesRound(t, wide)) {
		t.Error("noise")
	}
}

// Signals that lean on each other, as no register could have them: rounds end all the same.
func TestFairRoundsInACircle(t *testing.T) {
	one, _ := impl.MillOpen(0, shelf{safe: joined([]impl.Rec{define("x", ""), define("a", "b + x")}), fuse: -1}.disk())
	two, _ := impl.MillOpen(1, shelf{safe: joined([]impl.Rec{define("y", ""), define("b", "a + y")}), fuse: -1}.disk())
	w := impl.World{Reg: regOf("x@0; y@1; b@1; a@0", ""), Mills: []impl.Mill{one, two}}
	for i := range 3 {
		w = after(t, w, fmt.Sprintf("set x %d", i), fmt.Sprintf("set y %d", i))
		for v := 1; v < 9; v++ {
			w = isDone(t, w, junkOf(tell(1, 0, "b", v, ver("x", v), ver("y", v))), impl.WorldDone)
			w = isDone(t, w, junkOf(tell(0, 1, "a", v, ver("x", v), ver("y", v))), impl.WorldDone)
		}
		w = goesRound(t, goesRound(t, w))
	}
}

func TestLastVersions(t *testing.T) {
	w := busyWorld(t)
	if got := modelStampText(countsAndLast(t, w)); got != "x:2 y:2" {
		t.Error(got)
	}
	if got := modelStampText(countsAndLast(t, goesRound(t, comesUp(t, w, true)))); got != "w:9 x:2 y:2" {
		t.Error(got)
	}
	if last := countsAndLast(t, newWorld(t, 2)); len(last) > 0 {
		t.Error(last)
	}
	// ascending, in whatever order they came; more than a stamp may have
	names := []string{"q", "ab", "z", "a", "b", "x1", "x", "k9", "aa", "m", "n", "p", "y", "c", "d", "e"}
	many := newWorld(t, 5)
	for i, name := range names {
		many = after(t, many, fmt.Sprintf("source %d %s", i%5, name))
		for range i % 3 {
			many = after(t, many, "set "+name+" 1")
		}
	}
	var want []string
	for i, name := range names {
		if i%3 > 0 {
			want = append(want, fmt.Sprintf("%s:%d", name, i%3))
		}
	}
	slices.Sort(want)
	if last := countsAndLast(t, many); fmt.Sprint(last) != "[{"+strings.ReplaceAll(strings.Join(want, "} {"), ":", " ")+"}]" {
		t.Error(last, want)
	}
	for _, name := range names {
		many = after(t, many, "set "+name+" 2")
	}
	if last := countsAndLast(t, many); len(last) != 16 {
		t.Error(last)
	}
	// what is no source is not told, nor one that is not at home where the register tells
	other := withReg(w, "x@1; y@1; s@4", "")
	if got := modelStampText(countsAndLast(t, other)); got != "y:2" {
		t.Error(got)
	}
	// a source of the register that has a body at its node has a mark only if what it shows has one of it
	other = withReg(w, "d@1; y@1", "")
	if got := modelStampText(countsAndLast(t, other)); got != "y:2" {
		t.Error(got)
	}
}

func TestCalmWorlds(t *testing.T) {
	isSettled(t, newWorld(t, 2), true)
	w := worldOf(t, 3, "source 0 x", "source 1 y", "define 1 d x * 2", "define 2 s d + y")
	isSettled(t, w, true) // nothing is shown, so nothing is meant
	w = after(t, w, "set y 7")
	isSettled(t, w, true)
	w = after(t, w, "set x 5")
	isSettled(t, w, false)
	w = after(t, w, "tick 1", "give 0", "give 0")
	if got := worldShows(t, w); got != "x 5 x:1; y 7 y:1; d 10 x:1" {
		t.Error(got)
	}
	isSettled(t, w, false) // s lacks
	w = after(t, w, "tick 2", "give 0", "give 0", "give 0", "give 0")
	if got := worldShows(t, w); got != "x 5 x:1; y 7 y:1; d 10 x:1; s 17 x:1 y:1" {
		t.Error(got)
	}
	isSettled(t, w, true)
	isSettled(t, after(t, w, "set x 5"), false) // the same value under another version
	isSettled(t, after(t, w, "set y 8"), false)
	isSettled(t, after(t, w, "fall 0 0"), true)  // without x nothing is meant but y
	isSettled(t, after(t, w, "fall 2 0"), false) // s is meant, and shows nothing
	isSettled(t, after(t, w, "fall 1 0"), false) // so is d
	isSettled(t, after(t, w, "fall 1 0", "rise 1 -1", "tick 1"), false)
	turned := func(change func(w *impl.World), want bool) {
		t.Helper()
		then := copyOfWorld(w)
		change(&then)
		isSettled(t, then, want)
	}
	turned(func(w *impl.World) { w.Mills[2].Cells[0].Out.Val++ }, false)
	turned(func(w *impl.World) { w.Mills[2].Cells[0].Out.Stamp = marks("x:1") }, false)
	turned(func(w *impl.World) { w.Mills[2].Cells[0].Out.Stamp = marks("x:1 y:1 z:1") }, false)
	turned(func(w *impl.World) { w.Mills[2].Cells[0].Out.Stamp = marks("x:2 y:1") }, false)
	turned(func(w *impl.World) { w.Mills[2].Cells[0].Out.Stamp = marks("x:1 z:1") }, false)
	turned(func(w *impl.World) { w.Reg.Sigs[3].Body = "d - y" }, false)
	turned(func(w *impl.World) { w.Reg.Sigs[3].Body = "d + x + y - 5" }, true)
	turned(func(w *impl.World) { w.Reg.Sigs[3].Home = 4 }, false)
	turned(func(w *impl.World) { w.Reg.Sigs[0].Home = 4 }, true) // then x is not shown, and only y is meant
	turned(func(w *impl.World) { w.Reg.Sigs = w.Reg.Sigs[:3] }, true)
	turned(func(w *impl.World) { w.Reg = regOf("d@1", "") }, false) // a source whose node shows it with another one's mark
	turned(func(w *impl.World) { w.Way = append(w.Way, []byte("z")) }, true)
	turned(func(w *impl.World) { w.Way = append(w.Way, make([]byte, 261)) }, false)
}

// There may be more sources than a stamp has room for: each signal asks for its own alone.
func TestCalmWorldsOfManySources(t *testing.T) {
	w := newWorld(t, 2)
	for _, name := range numbered("n", 14) {
		w = after(t, w, "source 1 "+name, "set "+name+" 3")
	}
	w = after(t, w, "define 0 s n00 + n13", "define 1 u n00 + n13")
	isSettled(t, w, false)
	w = goesRound(t, w)
	if len(countsAndLast(t, w)) != 14 {
		t.Error(worldText(w))
	}
	isSettled(t, w, true)
	isSettled(t, after(t, w, "set n13 3"), false)
	isSettled(t, after(t, w, "set n05 3"), true)
	spent := worldOf(t, 2, "source 0 x", "define 0 s "+spentBody, "define 1 u 1 + "+spentBody, "set x 1")
	isSettled(t, spent, false)
	isSettled(t, goesRound(t, spent), true)
}

func TestCounts(t *testing.T) {
	for _, c := range []struct {
		w    impl.World
		want [4]int
	}{
		{newWorld(t, 2), [4]int{}},
		{worldOf(t, 2, "source 0 x"), [4]int{}},
		{worldOf(t, 2, "source 0 x", "set x 1"), [4]int{0, 0, 1, 0}},
		{worldOf(t, 2, "source 0 x", "define 0 s x + x", "define 0 t s + x", "set x 1"), [4]int{3, 0, 3, 0}},
		{worldOf(t, 2, "source 0 x", "define 1 s x", "set x 1", "tick 1"), [4]int{0, 0, 1, 1}},
		{worldOf(t, 2, "source 0 x", "define 1 s x", "set x 1", "tick 1", "give 0"), [4]int{0, 1, 1, 1}},
		{worldOf(t, 2, "source 0 x", "define 1 s x", "set x 1", "tick 1", "give 0", "give 0"), [4]int{1, 1, 2, 0}},
		{worldOf(t, 2, "source 0 x", "define 1 s x", "set x 1", "tick 1", "give 0", "give 0", "fall 1 0", "junk z"), [4]int{0, 1, 1, 1}},
		{withMill(newWorld(t, 2), busyNode(t)), [4]int{7, 4, 4, 0}},
		{filledWay(withMill(newWorld(t, 2), fullNode(t)), 300), [4]int{0, 64, 0, 300}},
		{impl.World{}, [4]int{}},
	} {
		if got := countOf(c.w); got != c.want || modelCount(c.w) != c.want {
			t.Errorf("%s\n%v, not %v", worldText(c.w), got, c.want)
		}
	}
	w := worldOf(t, 2, "source 0 x", "define 1 s x + 1")
	for val := range 9 {
		w = goesRound(t, after(t, w, fmt.Sprintf("set x %d", val)))
		if got := countOf(w); got != [4]int{min(val+1, 4), 1, 2, 0} {
			t.Error(val, got)
		}
	}
}

func TestRoundsAgainstModel(t *testing.T) {
	t.Parallel()
	r := rand.New(rand.NewSource(404))
	calm, fell := [2]int{}, 0
	for n := range 90 {
		w := playWorld(r, 20+r.Intn(60), allClimates[n%len(allClimates)], func(step) {})
		isSettled(t, w, modelCalm(w))
		if n%3 == 0 {
			w = comesUp(t, w, !slices.ContainsFunc(w.Mills, func(m impl.Mill) bool { return m.Disk.Down && modelRiseAt(m, -1).code != impl.MillDone }))
		}
		for range 3 {
			before := w
			w = goesRound(t, w)
			isCalm := modelCalm(w)
			calm[oneIf(isCalm)]++
			isSettled(t, w, isCalm)
			for i, m := range w.Mills {
				fell += oneIf(m.Disk.Down && !before.Mills[i].Disk.Down)
			}
		}
	}
	if min(calm[0], calm[1]) < 15 || fell < 1 {
		t.Error(calm, fell)
	}
}
