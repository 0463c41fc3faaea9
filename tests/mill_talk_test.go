package tests

import (
	"fmt"
	"math/rand"
	"slices"
	"strings"
	"testing"

	"loop.example/headrace/impl"
)

// takes holds MillTake against the model and the code that is told, and tells what is said, as lines.
func takes(t *testing.T, m impl.Mill, s impl.Say, want int) (impl.Mill, string) {
	t.Helper()
	a := holdsAt(t, m, takeAt(m, s), modelTake(m, s), want)
	return a.m, saysText(a.says)
}

// ticks holds MillTick against the model and the code that is told, and tells what is said, as lines.
func ticks(t *testing.T, m impl.Mill, r impl.Reg, want int) (impl.Mill, string) {
	t.Helper()
	a := holdsAt(t, m, tickAt(m, r), modelTick(m, r), want)
	return a.m, saysText(a.says)
}

// tellOf is a word of the node 2 to the node 1.
func tellOf(name string, val int, stamp string) impl.Say {
	return tell(2, 1, name, val, versOfMarks(marks(stamp))...)
}

func TestEachCodeOfWords(t *testing.T) {
	busy, down := busyNode(t), impl.Mill{Home: 1, Disk: lying("").disk()}
	bad := busyNode(t)
	bad.Subs = append(bad.Subs, bad.Subs[0])
	for _, c := range []struct {
		m     impl.Mill
		s     impl.Say
		codes []int
	}{
		{busy, ask(0, 1, "x"), nil}, {busy, ask(4, 1, "u"), nil}, {busy, ask(2, 1, "w"), nil},
		{busy, ask(0, 1, "far"), []int{impl.MillNone}}, {busy, ask(0, 1, "old"), []int{impl.MillNone}}, {busy, ask(0, 1, "new"), []int{impl.MillNone}}, {busy, ask(0, 1, "if"), []int{impl.MillNone}}, {busy, ask(0, 1, "-"), []int{impl.MillNone}},
		{busy, tellOf("far", 1, "far:9"), nil}, {busy, tellOf("new", 1, "new:9"), nil}, {busy, tellOf("old", 1, "old:9"), nil}, {busy, tellOf("then", 1, "-:9"), nil},
		{busy, tellOf("x", 1, "x:9"), []int{impl.MillNone}}, {busy, tellOf("s", 1, "x:9"), []int{impl.MillNone}}, {busy, tellOf("w", 1, "w:1"), []int{impl.MillNone}},
		{busy, gone(0, 1, "x"), []int{impl.MillNone}}, {busy, gone(0, 1, "far"), []int{impl.MillNone}}, {busy, gone(0, 1, "new"), []int{impl.MillNone}}, {busy, gone(4, 1, "old"), []int{impl.MillNone}},
		{down, ask(0, 1, "x"), []int{impl.MillDown, impl.MillNone}}, {down, tellOf("far", 1, "far:9"), []int{impl.MillDown}}, {down, gone(0, 1, "x"), []int{impl.MillDown, impl.MillNone}},
		{down, ask(0, 2, "x"), []int{impl.MillBad, impl.MillDown, impl.MillNone}}, {down, ask(5, 1, "x"), []int{impl.MillBad, impl.MillDown, impl.MillNone}},
		{bad, ask(0, 1, "x"), []int{impl.MillBad}}, {bad, tellOf("x", 1, "x:9"), []int{impl.MillBad, impl.MillNone}}, {bad, tellOf("far", 1, "far:9"), []int{impl.MillBad}},
	} {
		if codes := takeCodes(c.m, c.s); !slices.Equal(codes, c.codes) {
			t.Errorf("%v: %v, not %v", c.s, codes, c.codes)
		}
		takes(t, c.m, c.s, append(c.codes, impl.MillDone)[0])
	}
}

func TestWordsThatAreNotForANode(t *testing.T) {
	busy := busyNode(t)
	for from := -1; from <= 10; from++ {
		for to := -1; to <= 10; to++ {
			code := impl.MillBad
			if to == 1 && from != 1 && from >= 0 && from <= 4 {
				code = impl.MillDone
			}
			takes(t, busy, ask(from, to, "x"), code)
			takes(t, busy, tell(from, to, "far", 1, ver("far", 3)), code)
			takes(t, busy, gone(from, to, "x"), [2]int{impl.MillBad, impl.MillNone}[oneIf(code == impl.MillDone)])
		}
	}
	for _, s := range noSays {
		s.To = 1
		if s.From == 1 {
			s.From = 0
		}
		if !modelSayOk(s) {
			takes(t, busy, s, impl.MillBad)
		}
	}
	for _, s := range []impl.Say{{}, {Kind: 4, From: 0, To: 1, Name: "x"}, {Kind: impl.SayAsk, From: 0, To: 1, Name: "x", Val: 1}, {Kind: impl.SayAsk, From: 0, To: 1, Name: "x", Stamp: []impl.Ver{ver("x", 1)}}, tell(0, 1, "far", 1), ask(0, 1, ""), ask(0, 1, "X"), tellOf("far", 1, "far:0"), tellOf("far", 1, "y:1 x:1"), tellOf("far", 1, "far:1099511627777"), {Kind: impl.SayGone, From: 0, To: 1, Name: "x", Val: 1}} {
		takes(t, busy, s, impl.MillBad)
	}
	for home := range 5 {
		m := impl.Mill{Home: home, Disk: impl.Disk{Fuse: -1}}
		for to := range 5 {
			takes(t, m, tell((to+1)%5, to, "far", 1, ver("far", 3)), [2]int{impl.MillBad, impl.MillDone}[oneIf(home == to)])
		}
	}
}

// A wish that is there begins anew, one that is new comes to stand where it belongs; what is shown is told at once, to whoever asks alone.
func TestAsking(t *testing.T) {
	busy := busyNode(t)
	for _, c := range []struct {
		from       int
		name, subs string
		says       string
	}{
		{0, "s", "s 0 3, s 4 1, u 2 3, x 3 3", "1 0 tells s 7 far:2 x:3"},
		{4, "s", "s 0 2, s 4 3, u 2 3, x 3 3", "1 4 tells s 7 far:2 x:3"},
		{3, "x", "s 0 2, s 4 1, u 2 3, x 3 3", "1 3 tells x 5 x:3"},
		{2, "s", "s 0 2, s 2 3, s 4 1, u 2 3, x 3 3", "1 2 tells s 7 far:2 x:3"},
		{4, "x", "s 0 2, s 4 1, u 2 3, x 3 3, x 4 3", "1 4 tells x 5 x:3"},
		{0, "x", "s 0 2, s 4 1, u 2 3, x 0 3, x 3 3", "1 0 tells x 5 x:3"},
		{0, "y", "s 0 2, s 4 1, u 2 3, x 3 3, y 0 3", "1 0 tells y 9 y:2"},
		{4, "t", "s 0 2, s 4 1, t 4 3, u 2 3, x 3 3", "1 4 tells t 14 far:2 x:3"},
		{0, "u", "s 0 2, s 4 1, u 0 3, u 2 3, x 3 3", ""},
		{2, "u", "s 0 2, s 4 1, u 2 3, x 3 3", ""},
		{3, "w", "s 0 2, s 4 1, u 2 3, w 3 3, x 3 3", ""},
	} {
		then, says := takes(t, busy, ask(c.from, 1, c.name), impl.MillDone)
		if !slices.Equal(then.Subs, subs(c.subs)) || says != c.says || !sameCells(then.Cells, busy.Cells) || shelfOf(then.Disk) != shelfOf(busy.Disk) {
			t.Errorf("%d asks %s: %s says %q", c.from, c.name, millText(then), says)
		}
	}
	for name, want := range map[string]string{"a": "a 0 3, s 0 2, s 4 1, u 2 3, x 3 3", "st": "s 0 2, s 4 1, st 0 3, u 2 3, x 3 3", "zz": "s 0 2, s 4 1, u 2 3, x 3 3, zz 0 3"} {
		if then, _ := takes(t, defines(t, busy, name, "", impl.MillDone), ask(0, 1, name), impl.MillDone); !slices.Equal(then.Subs, subs(want)) {
			t.Errorf("%s: %v", name, then.Subs)
		}
	}
	// as many as may be
	full := fullNode(t)
	m := copyOfMill(full)
	m.Subs = nil
	for _, at := range rand.New(rand.NewSource(320)).Perm(len(full.Subs)) {
		m, _ = takes(t, m, ask(full.Subs[at].Peer, 1, full.Subs[at].Name), impl.MillDone)
	}
	if !sameMill(m, full) || len(m.Subs) != 64 {
		t.Error(millText(m))
	}
	// a fuse is no matter where nothing is put
	busy.Disk.Fuse = 0
	if then, _ := takes(t, busy, ask(0, 1, "s"), impl.MillDone); then.Disk.Fuse != 0 {
		t.Error(millText(then))
	}
}

func TestTelling(t *testing.T) {
	busy := busyNode(t)
	for _, c := range []struct {
		s           impl.Say
		says, shown string
		win         string
	}{
		{tellOf("far", 30, "far:3"), "1 0 tells s 131 far:3 x:3; 1 4 tells s 131 far:3 x:3", "s 131 far:3 x:3; t 262 far:3 x:3", "far:1|far:2|far:3"},
		{tellOf("far", 30, "far:9"), "1 0 tells s 131 far:9 x:3; 1 4 tells s 131 far:9 x:3", "s 131 far:9 x:3; t 262 far:9 x:3", "far:1|far:2|far:9"},
		{tellOf("far", 30, "far:2"), "", "s 7 far:2 x:3; t 14 far:2 x:3", "far:1|far:2"},
		{tellOf("far", 30, "far:1"), "", "s 7 far:2 x:3; t 14 far:2 x:3", "far:1|far:2"},
		{tellOf("far", 30, "far:3 x:3"), "", "s 7 far:2 x:3; t 14 far:2 x:3", "far:1|far:2"},
		{tellOf("far", 30, "x:3"), "", "s 7 far:2 x:3; t 14 far:2 x:3", "far:1|far:2"},
		{tellOf("other", 30, "far:3"), "", "s 7 far:2 x:3; t 14 far:2 x:3", "far:1|far:2"},
	} {
		then, says := takes(t, busy, c.s, impl.MillDone)
		want := "x 5 x:3; y 9 y:2; " + c.shown
		wins := then.Cells[3].Wins[0]
		var stamps []string
		for _, it := range wins {
			stamps = append(stamps, modelStampText(it.Stamp))
		}
		if says != c.says || shownText(then) != want || strings.Join(stamps, "|") != c.win {
			t.Errorf("%v: %q %q %q", c.s, says, shownText(then), stamps)
		}
		if again, says := takes(t, then, c.s, impl.MillDone); !sameMill(again, then) || says != "" {
			t.Errorf("%v once more: %s says %q", c.s, millText(again), says)
		}
	}
}

// One word for several cells, of which some lean on each other: what one shows is followed up ahead of the next one.
func TestTellingSeveralCells(t *testing.T) {
	for _, c := range []struct {
		cells []string
		order string
	}{
		{[]string{"a = far", "b = far", "c = far"}, "a b c"},
		{[]string{"a = far", "b = a", "c = far"}, "a b c"},
		{[]string{"a = far", "c = far", "b = a", "d = far"}, "a b c d"},
		{[]string{"a = far", "b = far + a", "c = a", "d = b"}, "a c b d"},
		{[]string{"a = far", "b = far", "c = a + b", "d = a", "e = c + far"}, "a d b c e"},
		{[]string{"b = far", "a = b + far", "x", "y = a"}, "b a y"},
		{[]string{"x", "y = x"}, ""},
	} {
		m := wishedOf(t, c.cells...)
		for n := range 6 {
			then, says := takes(t, m, tellOf("far", 10+n, fmt.Sprintf("far:%d src:7", n+1)), impl.MillDone)
			if told(t, says) != c.order {
				t.Errorf("%q: %q, not %q", c.cells, told(t, says), c.order)
			}
			m = then
		}
	}
	// two inputs from elsewhere that must agree
	m := wishedOf(t, "s = p + q", "t = s + p")
	for _, step := range [][2]string{
		{"p 1 x:1", ""}, {"q 20 x:2", ""}, {"p 2 x:3", ""}, {"q 30 x:3", "s t"}, {"p 5 x:5", ""}, {"q 40 x:4", ""}, {"p 4 x:4", ""}, {"q 50 x:5", "s t"}, {"p 6 x:6 y:1", ""}, {"q 60 x:6", ""},
	} {
		words := strings.SplitN(step[0], " ", 3)
		then, says := takes(t, m, tellOf(words[0], modelNumber(words[1]), words[2]), impl.MillDone)
		if told(t, says) != step[1] {
			t.Errorf("%q: %q", step, says)
		}
		m = then
	}
	if shownText(m) != "s 55 x:5; t 60 x:5" {
		t.Error(shownText(m))
	}
	// stamps that no source of here could have, as wide as they may be, and one wider
	m = wishedOf(t, "s = p + q", "t = p")
	wide := tell(2, 1, "p", 7, versOfMarks(wideMarks(12))...)
	m, _ = takes(t, m, tellOf("q", 3, "a:1"), impl.MillDone)
	then, says := takes(t, m, wide, impl.MillDone)
	if told(t, says) != "t" || then.Cells[0].Has || len(then.Cells[0].Wins[0]) != 1 {
		t.Error(millText(then), says)
	}
	m = wishedOf(t, "s = p + q", "t = p")
	m, _ = takes(t, m, tellOf("q", 3, modelStampText(wideMarks(12))), impl.MillDone)
	if then, says := takes(t, m, wide, impl.MillDone); told(t, says) != "s t" || len(then.Cells[0].Out.Stamp) != 12 {
		t.Error(millText(then), says)
	}
}

var tickReg = regOf("x@1; y@1; w@1; far@3; s@1 = x + far; t@1 = s * 2; u@1 = y + w", "old")

func TestTicks(t *testing.T) {
	busy := busyNode(t)
	then, says := ticks(t, busy, tickReg, impl.MillDone)
	want := "1 0 tells s 7 far:2 x:3; 1 3 tells x 5 x:3; 1 3 asks far"
	if says != want || !slices.Equal(then.Subs, subs("s 0 1, u 2 2, x 3 2")) || then.Cells[1].Ver != 5 || !then.Cells[1].Said || shownText(then) != "x 5 x:3; y -3 y:5; s 7 far:2 x:3; t 14 far:2 x:3" {
		t.Errorf("%q %s", says, millText(then))
	}
	recs, _ := impl.LogRead(then.Disk.Safe)
	if recs[len(recs)-1] != lend("y", 12) {
		t.Error(recs)
	}
	then, says = ticks(t, then, tickReg, impl.MillDone)
	if says != "1 3 tells x 5 x:3; 1 3 asks far" || !slices.Equal(then.Subs, subs("u 2 1, x 3 1")) {
		t.Errorf("%q %s", says, millText(then))
	}
	then, says = ticks(t, then, tickReg, impl.MillDone)
	if says != "1 3 asks far" || len(then.Subs) > 0 {
		t.Errorf("%q %s", says, millText(then))
	}
	last, says := ticks(t, then, tickReg, impl.MillDone)
	if says != "1 3 asks far" || !sameMill(last, then) {
		t.Errorf("%q %s", says, millText(last))
	}
	if _, says := ticks(t, then, impl.Reg{}, impl.MillDone); says != "" {
		t.Error(says)
	}
	if then, says := ticks(t, openedOn(t), tickReg, impl.MillDone); says != "" || !sameMill(then, openedOn(t)) {
		t.Error(says)
	}
}

// A source that was set and not said is said: first it goes to peers by itself, with all that leans on it, and then once more with all wishes; in the order of cells, not of names.
func TestSourcesThatAreSaidByTicks(t *testing.T) {
	m := wishedOf(t, "y", "x", "s = y + 1", "z1", "t = x + y", "a")
	for _, rec := range []impl.Rec{value("y", 4), value("z1", 0), value("x", 7)} {
		disk, _ := impl.LogPut(m.Disk, rec)
		m.Disk = disk
		c := &m.Cells[slices.IndexFunc(m.Cells, func(c impl.Cell) bool { return c.Name == rec.Name })]
		c.Val, c.Set = rec.Num, true
	}
	then, says := ticks(t, m, impl.Reg{}, impl.MillDone)
	if told(t, says) != "y s x t z1 s t x y z1" || shownText(then) != "y 4 y:1; x 7 x:1; s 5 y:1; z1 0 z1:1; t 11 x:1 y:1" {
		t.Errorf("%q %s", says, shownText(then))
	}
	// said once, they are not said again
	if then, says := ticks(t, then, impl.Reg{}, impl.MillDone); told(t, says) != "s t x y z1" || then.Cells[0].Ver != 1 {
		t.Errorf("%q %s", says, shownText(then))
	}
	// wishes that end with this tick hear nothing of it
	for i := range m.Subs {
		m.Subs[i].Left = 1
	}
	if then, says := ticks(t, m, impl.Reg{}, impl.MillDone); says != "" || len(then.Subs) > 0 || len(shownText(then)) == 0 {
		t.Errorf("%q %s", says, millText(then))
	}
}

// unsaid is a node with sources that were set and not said, with these lent.
func unsaid(t *testing.T, ahead []impl.Rec, names string, lent ...int) impl.Mill {
	t.Helper()
	l := ahead
	for i, name := range strings.Fields(names) {
		l = behind(l, define(name, ""), value(name, 10+i))
		if lent[i] > 0 {
			l = append(l, lend(name, lent[i]))
		}
	}
	m := openedOn(t, l...)
	for _, name := range strings.Fields(names) {
		m.Subs = append(m.Subs, impl.Sub{Name: name, Peer: 2, Left: 3})
	}
	slices.SortFunc(m.Subs, subOrder)
	return m
}

// Sources that can't be said stay unsaid, and the others are said.
func TestTicksThatCanNotSayAll(t *testing.T) {
	m := unsaid(t, nil, "p q r", 8, 1<<40-7, 1<<40-8)
	then, says := ticks(t, m, impl.Reg{}, impl.MillDone)
	if says != "1 2 tells p 10 p:9; 1 2 tells r 12 r:1099511627769; 1 2 tells p 10 p:9; 1 2 tells r 12 r:1099511627769" || then.Cells[1].Said || then.Cells[1].Has || then.Cells[1].Ver != 1<<40-7 {
		t.Errorf("%q %s", says, millText(then))
	}
	// room for so many records; m, which stands first, is unsaid, too
	for room, want := range map[int]string{5: "m p q r", 4: "m p q r", 3: "m p q", 2: "m p", 1: "m", 0: ""} {
		ahead := behind([]impl.Rec{define("m", "")}, slices.Repeat([]impl.Rec{value("m", 1)}, 200-7-room)...)
		then, says := ticks(t, unsaid(t, ahead, "p q r", 0, 0, 0), impl.Reg{}, impl.MillDone)
		var done []string
		for _, c := range then.Cells {
			if c.Said {
				done = append(done, c.Name)
			} else if c.Has || c.Ver != 0 || c.Lent != 0 || !c.Set {
				t.Error(millText(then))
			}
		}
		if strings.Join(done, " ") != want || strings.Count(says, "tells") != 2*max(0, len(done)-1) {
			t.Errorf("%d: %q %q", room, done, says)
		}
	}
	// room for a short name alone
	m = unsaid(t, filledLog(t, 8000-80), "abcdefgh q", 0, 0)
	left := 8000 - len(m.Disk.Safe)
	m = unsaid(t, filledLog(t, 8000-80+left-14), "abcdefgh q", 0, 0)
	then, says = ticks(t, m, impl.Reg{}, impl.MillDone)
	if says != "1 2 tells q 11 q:1; 1 2 tells q 11 q:1" || len(then.Disk.Safe) != 7999 {
		t.Errorf("%q %s", says, millText(then))
	}
}

// A fall within a tick leaves nothing but the disk, and nothing is said at all, though sources were said ahead of it.
func TestFallsWithinTicks(t *testing.T) {
	m := unsaid(t, []impl.Rec{define("a", "far")}, "p q", 0, 8)
	r := regOf("far@3", "")
	fallsWithin(t, m, func(m impl.Mill) answer { return tickAt(m, r) }, func(m impl.Mill) answer { return modelTick(m, r) }, lend("p", 8), lend("q", 16))
	m.Cells[2].Ver = 7
	fallsWithin(t, m, func(m impl.Mill) answer { return tickAt(m, r) }, func(m impl.Mill) answer { return modelTick(m, r) }, lend("p", 8))
	m = unsaid(t, nil, "p", 3)
	m.Cells[0].Ver = 2
	m.Disk.Fuse = 0
	if then, says := ticks(t, m, r, impl.MillDone); then.Disk.Fuse != 0 || says != "1 2 tells p 10 p:3; 1 2 tells p 10 p:3" {
		t.Errorf("%q %s", says, millText(then))
	}
}

func TestWhatTicksAskFor(t *testing.T) {
	m := openedOn(t, define("x", ""), define("a", "far + x"), define("s", "q + far + p"), define("t", "s + q"), define("u", "zz + x + p"))
	for _, c := range []struct{ reg, says string }{
		{"", ""},
		{"x@1", ""},
		{"far@0", "1 0 asks far"},
		{"far@1", ""},
		{"x@4", "1 4 asks x"},
		{"s@2", "1 2 asks s"},
		{"far@0; p@2; q@3; zz@4", "1 0 asks far; 1 2 asks p; 1 3 asks q; 1 4 asks zz"},
		{"zz@4; q@3; p@2; far@0; more@0", "1 0 asks far; 1 2 asks p; 1 3 asks q; 1 4 asks zz"},
		{"far@0; p@1; q@1; zz@0", "1 0 asks far; 1 0 asks zz"},
		{"x@0; far@0; s@0 = far; a@0; t@0; u@0", "1 0 asks far; 1 0 asks x; 1 0 asks s"},
	} {
		then, says := ticks(t, m, regOf(c.reg, "old"), impl.MillDone)
		if says != c.says || !sameMill(then, m) {
			t.Errorf("%q: %q, not %q", c.reg, says, c.says)
		}
	}
	// what is no more in the register is not there
	if _, says := ticks(t, m, regOf("p@2", "far q"), impl.MillDone); says != "1 2 asks p" {
		t.Error(says)
	}
	for home := range 5 {
		m := opensNode(t, home, shelf{safe: joined([]impl.Rec{define("s", "far")}), fuse: -1}, impl.MillDone)
		for other := range 5 {
			want := ""
			if other != home {
				want = fmt.Sprintf("%d %d asks far", home, other)
			}
			if _, says := ticks(t, m, impl.Reg{Sigs: []impl.Sig{{Name: "far", Home: other}}}, impl.MillDone); says != want {
				t.Errorf("%q, not %q", says, want)
			}
		}
	}
}

func TestTicksThatAreNotDone(t *testing.T) {
	busy, down := busyNode(t), impl.Mill{Home: 1, Disk: lying("").disk()}
	for _, r := range []impl.Reg{regOf("x; x", ""), regOf("x", "x"), regOf("", "b a"), regOf("s = x", ""), sourcesOnly(17), regOf("x@5", ""), regOf("x@-1", ""), regOf("if", ""), {Gone: numbered("g", 61)}, regOf("x; s = x +", "")} {
		ticks(t, busy, r, impl.MillBad)
		ticks(t, down, r, impl.MillBad)
		ticks(t, impl.Mill{Home: 5}, r, impl.MillBad)
	}
	if then, says := ticks(t, down, tickReg, impl.MillDown); says != "" || !sameMill(then, down) {
		t.Error(millText(then))
	}
	ticks(t, impl.Mill{Home: 5}, tickReg, impl.MillBad)
	ticks(t, busy, sourcesOnly(16), impl.MillDone)
}

// readsOne holds MillRead and MillReads of one name against the model.
func readsOne(t *testing.T, m impl.Mill, name string) (impl.Item, bool) {
	t.Helper()
	it, ok := impl.MillRead(m, name)
	want, wantOk := modelRead(m, name)
	if ok != wantOk || !sameItem(it, want) {
		t.Errorf("%q of %s: %v %v, not %v %v", name, millText(m), it, ok, want, wantOk)
	}
	vals, s, okToo := impl.MillReads(m, []string{name})
	if okToo != ok || ok && (!slices.Equal(vals, []int{it.Val}) || !sameMarks(s, it.Stamp)) || !ok && len(vals)+len(s) > 0 {
		t.Errorf("%q of %s: %v %v %v", name, millText(m), vals, s, okToo)
	}
	return it, ok
}

// readsAll holds MillReads against the model and what is told.
func readsAll(t *testing.T, m impl.Mill, names []string, want bool) ([]int, []impl.Mark) {
	t.Helper()
	vals, s, ok := impl.MillReads(m, names)
	wantVals, wantStamp, wantOk := modelReads(m, names)
	if ok != want || wantOk != want || !slices.Equal(vals, wantVals) || !sameMarks(s, wantStamp) {
		t.Errorf("%q of %s: %v %v %v, not %v %v %v (%v)", names, millText(m), vals, s, ok, wantVals, wantStamp, wantOk, want)
	}
	return vals, s
}

func TestReading(t *testing.T) {
	busy := busyNode(t)
	for name, want := range map[string]string{"x": "5 x:3", "y": "9 y:2", "s": "7 far:2 x:3", "t": "14 far:2 x:3", "w": "", "u": "", "far": "", "old": "", "new": "", "": "", "X": "", "x ": "", "if": ""} {
		it, ok := readsOne(t, busy, name)
		if ok != (want != "") || ok && fmt.Sprintf("%d %s", it.Val, modelStampText(it.Stamp)) != want {
			t.Errorf("%q: %v %v", name, it, ok)
		}
	}
	down := impl.Mill{Home: 1, Disk: lying(string(busy.Disk.Safe)).disk()}
	bad := busyNode(t)
	bad.Cells[5].Ver = 1
	for _, m := range []impl.Mill{down, bad, {Home: -1}} {
		for _, name := range []string{"x", "s", "far", ""} {
			if _, ok := readsOne(t, m, name); ok {
				t.Error(name)
			}
		}
	}
}

func TestReadingTogether(t *testing.T) {
	busy := busyNode(t)
	for text, want := range map[string]string{
		"":                "[] -",
		"x":               "[5] x:3",
		"x x x":           "[5 5 5] x:3",
		"s t":             "[7 14] far:2 x:3",
		"t s x":           "[14 7 5] far:2 x:3",
		"y s y":           "[9 7 9] far:2 x:3 y:2",
		"x y s t":         "[5 9 7 14] far:2 x:3 y:2",
		"y x":             "[9 5] x:3 y:2",
		"x w":             "",
		"w":               "",
		"x y s t u":       "",
		"x far":           "",
		"old":             "",
		"far x":           "",
		"x x x x x x x X": "",
	} {
		vals, s := readsAll(t, busy, strings.Fields(text), want != "")
		if want != "" && fmt.Sprint(vals, " ", modelStampText(s)) != want {
			t.Errorf("%q: %v %v", text, vals, s)
		}
	}
	for n := range 20 {
		readsAll(t, busy, slices.Repeat([]string{"x"}, n), n <= 16)
		readsAll(t, busy, slices.Repeat([]string{"s", "x"}, n), 2*n <= 16)
	}
	readsAll(t, busy, append(slices.Repeat([]string{"x"}, 15), "w"), false)
	down := impl.Mill{Home: 1, Disk: lying("").disk()}
	readsAll(t, down, nil, true)
	readsAll(t, down, []string{"x"}, false)
	readsAll(t, impl.Mill{}, []string{}, true)
	bad := busyNode(t)
	bad.Gone = nil
	readsAll(t, bad, nil, false)
	readsAll(t, bad, []string{"x"}, false)
	readsAll(t, impl.Mill{Home: 5}, nil, false)
}

func TestReadingWhatDoesNotAgree(t *testing.T) {
	m := busyNode(t)
	m.Cells[4].Out = item(14, "far:1 x:3")
	for text, want := range map[string]bool{"s": true, "t": true, "s t": false, "t s": false, "x t": true, "x s": true, "x s t": false, "x y s y t": false, "y t": true, "t t": true} {
		readsAll(t, m, strings.Fields(text), want)
	}
	m.Cells[0].Said, m.Cells[0].Out = false, item(4, "x:2")
	for text, want := range map[string]bool{"x s": false, "s x": false, "x y": true, "x": true, "x x": true, "y x s": false} {
		readsAll(t, m, strings.Fields(text), want)
	}
	// joins of eleven and one, twelve and one that is among them, twelve and another one; pairs of three of which each fits
	wide := wideMarks(12)
	m = busyNode(t)
	m.Cells[3].Out.Stamp = wide[:11]
	readsAll(t, m, []string{"s", "x"}, true)
	readsAll(t, m, []string{"x", "s", "y"}, false)
	m.Cells[3].Out.Stamp = wide
	readsAll(t, m, []string{"s"}, true)
	readsAll(t, m, []string{"s", "s"}, true)
	readsAll(t, m, []string{"s", "x"}, false)
	readsAll(t, m, []string{"x", "s"}, false)
	m.Cells[4].Out.Stamp = wide[3:7]
	readsAll(t, m, []string{"t", "s"}, true)
	m.Cells[3].Out.Stamp, m.Cells[4].Out.Stamp = wide[:6], wide[6:]
	readsAll(t, m, []string{"t", "s"}, true)
	readsAll(t, m, []string{"t", "x"}, true)
	readsAll(t, m, []string{"x", "s"}, true)
	readsAll(t, m, []string{"t", "s", "x"}, false)
	readsAll(t, m, []string{"x", "t", "s"}, false)
}
