package tests

import (
	"fmt"
	"math/rand"
	"slices"
	"strings"
	"testing"

	"loop.example/headrace/impl"
)

func TestNewWorlds(t *testing.T) {
	for _, nodes := range []int{least, -6, -1, 0, 1, 2, 3, 4, 5, 6, 7, 9, 1 << 32, most} {
		w, ok := impl.WorldNew(nodes)
		model, modelOk := modelNew(nodes)
		if ok != (nodes >= 2 && nodes <= impl.RegMaxNodes) || ok != modelOk || !sameWorld(w, model) || ok != impl.WorldOk(w) {
			t.Errorf("%d: %v %s", nodes, ok, worldText(w))
		}
		if ok && (len(w.Mills) != nodes || countOf(w) != [4]int{} || !impl.WorldCalm(w)) {
			t.Errorf("%d: %s", nodes, worldText(w))
		}
	}
}

// busyWorld has shown and unsaid values, wishes, names that are no more, fuses, a node that is down, and words under way, one of which is none.
func busyWorld(t *testing.T) impl.World {
	t.Helper()
	w := worldOf(t, 4,
		"source 0 x", "source 1 y", "define 2 s x + y", "define 1 d x * 2", "define 0 e d + y", "source 3 w", "define 3 g w + s", "source 0 old", "remove old", "source 2 unset",
		"set x 5", "set y 7", "set w 1", "tick 2", "tick 1", "tick 0", "give 0", "give 0", "give 0", "give 0", "give 0", "give 0", "give 0", "give 0", "give 0", "give 0", "set x 6", "set y 8", "tick 0", "fall 3 0", "fuse 1 300", "junk zz", "copy 0")
	if len(w.Way) < 8 || len(w.Mills[0].Subs) < 2 || !w.Mills[3].Disk.Down || countOf(w)[0] < 5 {
		t.Fatal(worldText(w))
	}
	return w
}

// worldIs holds WorldOk against the model and what is wanted; what is not ok answers nothing, whatever it is asked for.
func worldIs(t *testing.T, w impl.World, want bool) {
	t.Helper()
	if got := impl.WorldOk(w); got != want || modelWorldOk(w) != want {
		t.Errorf("%s\nis %v, %q", worldText(w), got, wrongInWorld(w))
	}
	if want {
		return
	}
	for kind := range 13 {
		a := impl.Act{Kind: kind, Name: "new", N: 0, Raw: []byte("r")}
		if then, code := impl.WorldDo(w, a); code != impl.WorldBad || !sameWorld(then, impl.World{}) {
			t.Errorf("%+v: %d %s", a, code, worldText(then))
		}
	}
	for _, name := range append(sigNames(w.Reg), "", "new") {
		if it, ok := impl.WorldRead(w, name); ok || !sameItem(it, impl.Item{}) {
			t.Errorf("%q: %v", name, it)
		}
	}
	up, okUp := impl.WorldUp(w)
	fair, okFair := impl.WorldFair(w)
	if okUp || okFair || !sameWorld(up, impl.World{}) || !sameWorld(fair, impl.World{}) {
		t.Errorf("%s\n%s", worldText(up), worldText(fair))
	}
	if last := impl.WorldLast(w); len(last) > 0 || impl.WorldCalm(w) || countOf(w) != [4]int{} {
		t.Errorf("%v %v", last, countOf(w))
	}
}

// spoiltBy holds that a world that is changed so has just these faults, and is not ok.
func spoiltBy(t *testing.T, change func(w *impl.World), wrong ...string) {
	t.Helper()
	w := copyOfWorld(busyWorld(t))
	change(&w)
	if got := wrongInWorld(w); !slices.Equal(got, wrong) {
		t.Errorf("%q, not %q", got, wrong)
	}
	worldIs(t, w, len(wrong) == 0)
}

func TestWorldsThatMayBe(t *testing.T) {
	for nodes := 2; nodes <= 5; nodes++ {
		worldIs(t, newWorld(t, nodes), true)
	}
	worldIs(t, busyWorld(t), true)
	// nodes need not know what the register tells, nor the other way round; homes need not be there
	spoiltBy(t, func(w *impl.World) { w.Reg = impl.Reg{} })
	spoiltBy(t, func(w *impl.World) { w.Reg = regOf("x@4; k@3 = x", "y z") })
	spoiltBy(t, func(w *impl.World) { w.Mills = w.Mills[:2] })
	spoiltBy(t, func(w *impl.World) { w.Mills[1] = busyNode(t) })
	spoiltBy(t, func(w *impl.World) { w.Mills[1] = fullNode(t) })
	spoiltBy(t, func(w *impl.World) { w.Mills[1] = impl.Mill{Home: 1, Disk: lying("garbage").disk()} })
	// what is under way may be anything
	spoiltBy(t, func(w *impl.World) { w.Way = slices.Repeat([][]byte{nil, []byte("z")}, 150) })
	spoiltBy(t, func(w *impl.World) { w.Way = nil })
	spoiltBy(t, func(w *impl.World) { w.Way = append(w.Way, make([]byte, 260)) })
}

func TestWorldsThatMayNotBe(t *testing.T) {
	worldIs(t, impl.World{}, false)
	spoiltBy(t, func(w *impl.World) { w.Reg.Sigs = append(w.Reg.Sigs, w.Reg.Sigs[0]) }, "reg")
	spoiltBy(t, func(w *impl.World) { w.Reg.Sigs[0].Home = 5 }, "reg")
	spoiltBy(t, func(w *impl.World) { w.Reg.Gone = append(w.Reg.Gone, "x") }, "reg")
	spoiltBy(t, func(w *impl.World) { w.Reg.Gone = numbered("g", 61) }, "reg")
	spoiltBy(t, func(w *impl.World) { w.Mills = w.Mills[:1] }, "few mills")
	spoiltBy(t, func(w *impl.World) { w.Mills = nil }, "few mills")
	five := impl.Mill{Home: 4, Disk: impl.Disk{Fuse: -1}}
	spoiltBy(t, func(w *impl.World) { w.Mills = append(w.Mills, five) })
	// no sixth node may be: its place is no home
	spoiltBy(t, func(w *impl.World) { w.Mills = append(w.Mills, five, five) }, "many mills", "place")
	spoiltBy(t, func(w *impl.World) {
		w.Mills = append(w.Mills, five, impl.Mill{Home: 5, Disk: impl.Disk{Fuse: -1}})
	}, "many mills", "mill")
	for at := range 4 {
		spoiltBy(t, func(w *impl.World) {
			w.Mills[at] = impl.Mill{Home: at, Disk: impl.Disk{Fuse: 401}}
		}, "mill")
		spoiltBy(t, func(w *impl.World) { w.Mills[at] = impl.Mill{Home: (at + 1) % 5, Disk: impl.Disk{Fuse: -1}} }, "place")
	}
	spoiltBy(t, func(w *impl.World) { w.Mills[0].Cells[0].Val++ }, "mill")
	spoiltBy(t, func(w *impl.World) { w.Mills[1].Subs[0].Left = 4 }, "mill")
	spoiltBy(t, func(w *impl.World) { w.Mills[3].Gone = []string{"x"} }, "mill")
	spoiltBy(t, func(w *impl.World) { w.Mills[0], w.Mills[2] = w.Mills[2], w.Mills[0] }, "place", "place")
	spoiltBy(t, func(w *impl.World) { w.Way = slices.Repeat([][]byte{{1}}, 301) }, "way")
	spoiltBy(t, func(w *impl.World) { w.Way = append(w.Way, make([]byte, 261)) }, "bytes")
	spoiltBy(t, func(w *impl.World) { w.Way[0] = make([]byte, 261) }, "bytes")
	spoiltBy(t, func(w *impl.World) { w.Way[len(w.Way)/2] = make([]byte, 4000) }, "bytes")
	spoiltBy(t, func(w *impl.World) {
		w.Way = append(slices.Repeat([][]byte{{1}}, 300), make([]byte, 261))
	}, "way", "bytes")
}

// The same by chance: a world in which something was turned.
func TestTurnedWorldsAgainstModel(t *testing.T) {
	t.Parallel()
	r := rand.New(rand.NewSource(401))
	seen := [2]int{}
	for range 60 {
		w := playWorld(r, 30, climate{noise: true, falls: true}, func(step) {})
		for range 4 {
			turned := copyOfWorld(w)
			m := &turned.Mills[r.Intn(len(w.Mills))]
			switch r.Intn(4) {
			case 0:
				turnMill(r, m)
			case 1:
				*m = copyOfMill(turned.Mills[r.Intn(len(w.Mills))])
			case 2:
				turned.Reg = turnedReg(r, 1+r.Intn(16))
			case 3:
				m.Home += r.Intn(2)
			}
			ok := modelWorldOk(turned)
			seen[oneIf(ok)]++
			worldIs(t, turned, ok)
		}
	}
	if min(seen[0], seen[1]) < 30 {
		t.Error(seen)
	}
}

// plays holds WorldPlay against acts one by one.
func plays(t *testing.T, nodes int, acts []impl.Act) (impl.World, []int) {
	t.Helper()
	w, codes := impl.WorldPlay(nodes, acts)
	want, ok := modelNew(nodes)
	var wantCodes []int
	if !ok || len(acts) > 120 {
		want, acts = impl.World{}, nil
	}
	for _, a := range acts {
		then, code := modelDo(want, a)
		if code != impl.WorldBad {
			want = then
		}
		wantCodes = append(wantCodes, code)
	}
	if !sameWorld(w, want) || !slices.Equal(codes, wantCodes) {
		t.Errorf("%d, %+v: %v %s\nnot %v %s", nodes, acts, codes, worldText(w), wantCodes, worldText(want))
	}
	return w, codes
}

func TestWorldPlays(t *testing.T) {
	few := actsOf("source 0 x", "define 1 d x * 2", "set x 5", "tick 1", "give 0", "give 0")
	w, codes := plays(t, 2, few)
	if it, ok := impl.WorldRead(w, "d"); !ok || it.Val != 10 || !slices.Equal(codes, make([]int, 6)) {
		t.Error(it, codes)
	}
	for _, nodes := range []int{least, -1, 0, 1, 2, 3, 5, 6, most} {
		w, codes := plays(t, nodes, few)
		if ok := nodes >= 2 && nodes <= 5; ok != impl.WorldOk(w) || ok != (len(codes) == 6) {
			t.Error(nodes, codes)
		}
		plays(t, nodes, nil)
	}
	// what is of no kind leaves all as it was
	var mixed []impl.Act
	for i, a := range few {
		mixed = append(mixed, impl.Act{Kind: []int{0, -1, 12, 13, least, most}[i], Name: "x", Raw: []byte("x")}, a)
	}
	again, codes := plays(t, 2, mixed)
	if !sameWorld(again, w) || !slices.Equal(codes, []int{1, 0, 1, 0, 1, 0, 1, 0, 1, 0, 1, 0}) {
		t.Error(codes, worldText(again))
	}
	for _, n := range []int{119, 120, 121, 400} {
		for _, a := range []impl.Act{{}, actOf("junk a"), actOf("tick 1"), actOf("set x 1")} {
			_, codes := plays(t, 2, slices.Repeat([]impl.Act{a}, n))
			if want := n * oneIf(n <= impl.WorldMaxActs); len(codes) != want {
				t.Error(n, len(codes))
			}
		}
	}
}

func TestWorldPlaysAgainstModel(t *testing.T) {
	t.Parallel()
	r := rand.New(rand.NewSource(402))
	for n := range 60 {
		var acts []impl.Act
		steps := noted(r, r.Intn(121), allClimates[n%len(allClimates)])
		for _, s := range steps {
			acts = append(acts, s.a)
			if r.Intn(20) == 0 && len(acts) < 120 {
				acts = append(acts, impl.Act{Kind: 12 * r.Intn(2), Name: s.a.Name})
			}
		}
		plays(t, 2+r.Intn(4), acts[:min(len(acts), 120)])
	}
}

// worldShows holds WorldRead of all names against the model, and tells what is shown.
func worldShows(t *testing.T, w impl.World, more ...string) string {
	t.Helper()
	var all []string
	for _, name := range slices.Concat(sigNames(w.Reg), w.Reg.Gone, more, worldNames, []string{"", "X", "if"}) {
		it, ok := impl.WorldRead(w, name)
		want, wantOk := modelWorldRead(w, name)
		if ok != wantOk || !sameItem(it, want) {
			t.Errorf("%q of %s: %v %v, not %v %v", name, worldText(w), it, ok, want, wantOk)
		}
		if text := fmt.Sprintf("%s %d %s", name, it.Val, modelStampText(it.Stamp)); ok && !slices.Contains(all, text) {
			all = append(all, text)
		}
	}
	return strings.Join(all, "; ")
}

func TestWorldReads(t *testing.T) {
	w := busyWorld(t)
	if got := worldShows(t, w); got != "x 6 x:2; y 8 y:2; s 12 x:1 y:1; d 10 x:1; e 17 x:1 y:1" {
		t.Error(got)
	}
	// a signal is read at home alone, and only if the register has it
	w.Reg.Sigs[0].Home = 1
	if got := worldShows(t, w); got != "y 8 y:2; s 12 x:1 y:1; d 10 x:1; e 17 x:1 y:1" {
		t.Error(got)
	}
	for home := range 5 {
		w.Reg = regOf(fmt.Sprintf("y@%d", home), "x")
		if got := worldShows(t, w); (got == "y 8 y:2") != (home == 1) {
			t.Error(home, got)
		}
	}
	w = after(t, busyWorld(t), "fall 0 0")
	if got := worldShows(t, w); got != "y 8 y:2; s 12 x:1 y:1; d 10 x:1" {
		t.Error(got)
	}
	w = after(t, w, "rise 0 -1")
	if got := worldShows(t, w); got != "y 8 y:2; s 12 x:1 y:1; d 10 x:1" {
		t.Error(got)
	}
	if got := worldShows(t, after(t, w, "tick 0")); got != "x 6 x:9; y 8 y:2; s 12 x:1 y:1; d 10 x:1" {
		t.Error(got)
	}
	worldShows(t, newWorld(t, 2), "x")
}

func TestWorldReadsAgainstModel(t *testing.T) {
	t.Parallel()
	r := rand.New(rand.NewSource(403))
	for n := range 60 {
		worldShows(t, playWorld(r, 60, allClimates[n%len(allClimates)], func(step) {}))
	}
}
