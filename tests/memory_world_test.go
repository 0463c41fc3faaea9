package tests

import (
	"math/rand"
	"slices"
	"strings"
	"testing"

	"loop.example/headrace/impl"
)

func roomyWorld(w impl.World) impl.World {
	then := impl.World{Reg: roomyReg(w.Reg)}
	for _, m := range w.Mills {
		then.Mills = append(then.Mills, roomyMill(m))
	}
	for _, b := range w.Way {
		then.Way = append(then.Way, roomy(b, 0xA5))
	}
	then.Mills = roomy(then.Mills, impl.Mill{Home: -1, Gone: []string{"guard"}})
	then.Way = roomy(then.Way, []byte("guard"))
	return then
}

func roomyAct(a impl.Act) impl.Act {
	a.Name, a.Text, a.Raw = roomyText(a.Name), roomyText(a.Text), roomy(a.Raw, 0xA5)
	return a
}

// worldKeepsApart holds that an act on a world, and all that is asked of it, answer new memory and leave their arguments alone.
func worldKeepsApart(t *testing.T, w impl.World, a impl.Act) int {
	t.Helper()
	w, a = roomyWorld(w), roomyAct(a)
	code := 0
	keepsApart(t, func() many {
		then, told := impl.WorldDo(w, a)
		code = told
		return many{then}
	}, w, a)
	return code
}

func lookKeepsApart(t *testing.T, w impl.World) {
	t.Helper()
	w = roomyWorld(w)
	names := roomyTexts(append(sigNames(w.Reg), "none"))
	keepsApart(t, func() many {
		impl.WorldOk(w)
		impl.WorldCalm(w)
		impl.WorldCount(w)
		up, _ := impl.WorldUp(w)
		fair, _ := impl.WorldFair(w)
		answers := many{up, fair, impl.WorldLast(w)}
		for _, name := range names {
			it, _ := impl.WorldRead(w, name)
			answers = append(answers, it)
		}
		return answers
	}, w, names)
}

func TestWorldsAreNewMemory(t *testing.T) {
	t.Parallel()
	r := rand.New(rand.NewSource(410))
	var codes [12][4]int
	for n := range 24 {
		playWorld(r, 50, allClimates[n%len(allClimates)], func(s step) {
			codes[s.a.Kind][worldKeepsApart(t, s.w, s.a)]++
			if r.Intn(10) == 0 {
				lookKeepsApart(t, s.then)
			}
		})
	}
	for kind := 1; kind < 12; kind++ {
		if codes[kind][impl.WorldDone] < 3 {
			t.Error(kind, codes[kind])
		}
	}
	for nodes := 1; nodes < 7; nodes++ {
		keepsApart(t, func() many {
			w, _ := impl.WorldNew(nodes)
			other, _ := impl.WorldNew(nodes)
			return many{w, other}
		})
	}
}

// Each kind and code, also those that plays seldom meet.
func TestWorldsAtEachCodeAreNewMemory(t *testing.T) {
	busy := busyWorld(t)
	fused := after(t, busy, "fuse 0 3", "fuse 1 12")
	unsaid := withReg(withMill(newWorld(t, 2), fullLog(t, 199)), "x@1; y@1", "g")
	torn := withMill(busy, impl.Mill{Home: 3, Disk: lying(joined([]impl.Rec{define("x", "")}) + "torn").disk()})
	for _, c := range []struct {
		w    impl.World
		line string
		code int
	}{
		{busy, "source 0 n", impl.WorldDone}, {busy, "define 0 n x + y", impl.WorldDone}, {busy, "source 0 x", impl.WorldNot}, {busy, "source 3 n", impl.WorldNot}, {fused, "source 0 n", impl.WorldFell},
		{busy, "remove e", impl.WorldDone}, {busy, "remove x", impl.WorldNot}, {fused, "remove e", impl.WorldFell}, {withReg(busy, "never", ""), "remove never", impl.WorldDone},
		{busy, "set x 1", impl.WorldDone}, {busy, "set d 1", impl.WorldNot}, {busy, "set none 1", impl.WorldNot}, {fused, "set x 1", impl.WorldFell}, {unsaid, "set x 1", impl.WorldNot}, {filledWay(busy, 299), "set x 1", impl.WorldDone},
		{busy, "tick 0", impl.WorldDone}, {busy, "tick 1", impl.WorldDone}, {busy, "tick 3", impl.WorldNot}, {unsaid, "tick 1", impl.WorldDone},
		{busy, "give 0", impl.WorldDone}, {busy, "give 7", impl.WorldDone}, {busy, "give 8", impl.WorldNot}, {busy, "give 99", impl.WorldNot},
		{busy, "lose 0", impl.WorldDone}, {busy, "lose 99", impl.WorldNot}, {busy, "copy 0", impl.WorldDone}, {busy, "copy 99", impl.WorldNot}, {filledWay(busy, 300), "copy 0", impl.WorldNot},
		{busy, "junk zz", impl.WorldDone}, {busy, "junk ", impl.WorldDone}, {filledWay(busy, 300), "junk zz", impl.WorldNot},
		{busy, "fuse 0 5", impl.WorldDone}, {busy, "fuse 0 500", impl.WorldNot}, {busy, "fall 0 0", impl.WorldDone}, {busy, "fall 3 0", impl.WorldNot}, {busy, "rise 3 -1", impl.WorldDone}, {busy, "rise 0 -1", impl.WorldNot}, {torn, "rise 3 0", impl.WorldFell}, {torn, "rise 3 1", impl.WorldDone},
	} {
		if code := worldKeepsApart(t, c.w, actOf(c.line)); code != c.code {
			t.Errorf("%q: %d, not %d", c.line, code, c.code)
		}
		lookKeepsApart(t, c.w)
	}
	worldKeepsApart(t, busy, impl.Act{Kind: 12})
	worldKeepsApart(t, impl.World{}, actOf("tick 0"))
	bad := copyOfWorld(busy)
	bad.Mills[0].Home = 1
	worldKeepsApart(t, bad, actOf("tick 0"))
	lookKeepsApart(t, bad)
}

func TestPlaysAreNewMemory(t *testing.T) {
	t.Parallel()
	r := rand.New(rand.NewSource(411))
	for n := range 40 {
		var acts []impl.Act
		for _, s := range noted(r, 20+r.Intn(101), allClimates[n%len(allClimates)]) {
			acts = append(acts, roomyAct(s.a))
		}
		acts = roomy(acts, impl.Act{Kind: -1, Name: "guard", Raw: []byte("guard")})
		keepsApart(t, func() many {
			w, codes := impl.WorldPlay(2+n%4, acts)
			return many{w, codes}
		}, acts)
	}
}

func TestTextsOfTheHeadAreNewMemory(t *testing.T) {
	r := rand.New(rand.NewSource(412))
	for range 60 {
		text := roomyText(randomText(r, r.Intn(60)))
		keepsApart(t, func() many { return many{impl.HeadRun(text)} }, text)
	}
	for _, plain := range []string{"", "way", "?", "?\n?", "long", strings.Repeat("x", 6001), "read x"} {
		text := roomyText(plain)
		keepsApart(t, func() many { return many{impl.HeadRun(text)} }, text)
	}
}

// What is answered stays as it is whatever becomes of the arguments, and of other answers.
func TestAnswersOfWorldsStay(t *testing.T) {
	t.Parallel()
	r := rand.New(rand.NewSource(413))
	for n := range 60 {
		steps := noted(r, 40, allClimates[n%len(allClimates)])
		s := steps[len(steps)-1-r.Intn(20)]
		w, a := roomyWorld(s.w), roomyAct(s.a)
		calls := func() many {
			then, _ := impl.WorldDo(w, a)
			up, _ := impl.WorldUp(w)
			fair, _ := impl.WorldFair(w)
			return many{then, up, fair, impl.WorldLast(w)}
		}
		answers, others := calls(), calls()
		want := answers.contents()
		for _, other := range others {
			switch x := other.(type) {
			case impl.World:
				spoilWorld(x)
			case []impl.Mark:
				spoil(x, mark("spoilt", -1))
			}
		}
		spoilWorld(w)
		spoil(a.Raw, 0)
		if answers.contents() != want {
			t.Fatalf("%+v: answers became others", s.a)
		}
	}
}

func spoilWorld(w impl.World) {
	for _, m := range w.Mills {
		spoilMill(m)
	}
	for _, b := range w.Way {
		spoil(b, 0)
	}
	spoil(w.Mills, impl.Mill{Home: -1})
	spoil(w.Way, nil)
	spoil(w.Reg.Sigs, impl.Sig{Name: "spoilt"})
	spoil(w.Reg.Gone, "spoilt")
}

// What a world is asked for is answered in the same way each time, however those who look at its nodes run.
func TestWorldsAlwaysAnswerTheSame(t *testing.T) {
	t.Parallel()
	w := goesRound(t, comesUp(t, busyWorld(t), true))
	for _, from := range []impl.World{w, busyWorld(t)} {
		count, last, calm := countOf(from), impl.WorldLast(from), impl.WorldCalm(from)
		round, _ := impl.WorldFair(from)
		for range 200 {
			again, _ := impl.WorldFair(from)
			if countOf(from) != count || !slices.Equal(impl.WorldLast(from), last) || impl.WorldCalm(from) != calm || !sameWorld(again, round) {
				t.Fatal(worldText(from))
			}
		}
	}
}
