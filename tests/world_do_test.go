package tests

import (
	"fmt"
	"slices"
	"strings"
	"testing"

	"loop.example/headrace/impl"
)

// isRefused holds that an act is refused for just these reasons, and leaves the world as it was.
func isRefused(t *testing.T, w impl.World, a impl.Act, why ...string) {
	t.Helper()
	if got := refusals(w, a); !slices.Equal(got, why) {
		t.Errorf("%+v: refused by %q, not %q", a, got, why)
	}
	if then := isDone(t, w, a, impl.WorldNot); !sameWorld(then, w) {
		t.Errorf("%+v at\n%s\nleaves\n%s", a, worldText(w), worldText(then))
	}
}

// withMill has another node at its home.
func withMill(w impl.World, m impl.Mill) impl.World {
	w = copyOfWorld(w)
	w.Mills[m.Home] = m
	return w
}

// withReg has another register.
func withReg(w impl.World, lines, gone string) impl.World {
	w = copyOfWorld(w)
	w.Reg = regOf(lines, gone)
	return w
}

// filledWay is a world with so many bytes under way that are no words, behind what is under way.
func filledWay(w impl.World, n int) impl.World {
	w = copyOfWorld(w)
	for len(w.Way) < n {
		w.Way = append(w.Way, []byte{byte(len(w.Way))})
	}
	return w
}

// sent is what an act put under way behind what was there, as lines.
func sent(w, then impl.World) string {
	return modelWay(impl.World{Way: then.Way[len(w.Way):]})
}

// fullLog is a node with as many records as there may be, of the sources x and y.
func fullLog(t *testing.T, recs int) impl.Mill {
	t.Helper()
	return openedOn(t, behind([]impl.Rec{define("x", ""), define("y", "")}, slices.Repeat([]impl.Rec{value("x", 5)}, recs-2)...)...)
}

func TestKindsOfActs(t *testing.T) {
	for _, w := range []impl.World{newWorld(t, 2), busyWorld(t)} {
		for _, kind := range []int{least, -1, 0, 12, 13, 255, 1 << 32, most} {
			isDone(t, w, impl.Act{Kind: kind, Name: "x", Text: "x", Val: 1, Raw: []byte("r")}, impl.WorldBad)
		}
	}
	// what a kind does not name is not looked at
	w := busyWorld(t)
	odd := impl.Act{Node: -7, Name: "-", Text: "((", Val: -9, N: -9, Raw: make([]byte, 300)}
	for _, c := range []struct {
		line string
		put  func(a *impl.Act)
	}{
		{"define 0 new x + 1", func(a *impl.Act) { a.Node, a.Name, a.Text = 0, "new", "x + 1" }},
		{"remove e", func(a *impl.Act) { a.Name = "e" }},
		{"set x 9", func(a *impl.Act) { a.Name, a.Val = "x", 9 }},
		{"tick 2", func(a *impl.Act) { a.Node = 2 }},
		{"give 0", func(a *impl.Act) { a.N = 0 }},
		{"lose 1", func(a *impl.Act) { a.N = 1 }},
		{"copy 1", func(a *impl.Act) { a.N = 1 }},
		{"junk zz", func(a *impl.Act) { a.Raw = []byte("zz") }},
		{"fuse 0 7", func(a *impl.Act) { a.Node, a.N = 0, 7 }},
		{"fall 1 0", func(a *impl.Act) { a.Node, a.N = 1, 0 }},
		{"rise 3 5", func(a *impl.Act) { a.Node, a.N = 3, 5 }},
	} {
		a := odd
		a.Kind = actOf(c.line).Kind
		c.put(&a)
		plain := isDone(t, w, actOf(c.line), impl.WorldDone)
		if then := isDone(t, w, a, impl.WorldDone); !sameWorld(then, plain) || sameWorld(then, w) {
			t.Errorf("%q:\n%s", c.line, worldText(then))
		}
	}
}

func TestDefinitions(t *testing.T) {
	w := newWorld(t, 3)
	for _, line := range []string{"source 0 x", "source 2 abcdefgh", "define 1 d x * 2", "define 0 e  d+x", "define 2 f e + d + x + abcdefgh"} {
		a := actOf(line)
		then := isDone(t, w, a, impl.WorldDone)
		if want := append(slices.Clone(w.Reg.Sigs), impl.Sig{Name: a.Name, Home: a.Node, Body: a.Text}); !slices.Equal(then.Reg.Sigs, want) || len(then.Way) > 0 {
			t.Errorf("%q: %s", line, worldText(then))
		}
		if cells := then.Mills[a.Node].Cells; cells[len(cells)-1].Name != a.Name || cells[len(cells)-1].Body != a.Text {
			t.Errorf("%q: %s", line, worldText(then))
		}
		w = then
	}
	// what its inputs show at home it shows at once; what lives elsewhere it must ask for
	w = after(t, busyWorld(t), "define 0 k x + 1", "define 1 l x + y")
	if got := worldShows(t, w); !strings.HasSuffix(got, "; k 7 x:2") {
		t.Error(got)
	}
}

func TestDefinitionsThatAreRefused(t *testing.T) {
	w := busyWorld(t)
	for _, line := range []string{
		"source 2 e", "define 2 d x * 2", // there
		"define 2 old x",                     // no more
		"define 0 n k", "define 0 n x + old", // not there
	} {
		isRefused(t, w, actOf(line), "reg")
	}
	for _, line := range []string{
		"source 0 x", "define 0 x y", "source 0 old", "source 1 d", // there, or no more, and the node knows it, too
		"source 1 x",                       // there, and the node leans on it
		"define 0 n n", "define 0 n n + x", // its own input
		"source 0 X", "source 0 ", "source 0 if", "source 0 abcdefghi", "define 0 n 1", "define 0 n x +", "define 0 n x + y + s + d + e", // no signal
	} {
		isRefused(t, w, actOf(line), "reg", "mill")
	}
	full := newWorld(t, 2)
	for _, name := range numbered("n", 16) {
		full = after(t, full, "source 1 "+name)
	}
	isRefused(t, full, actOf("source 0 x"), "reg")
	isRefused(t, full, actOf("source 1 x"), "reg", "mill")
	// nodes that there are not: a home there may be, and one that may not
	for _, nodes := range []int{2, 3, 5} {
		w := newWorld(t, nodes)
		for _, node := range []int{least, -1, nodes, nodes + 1, 4, 5, most} {
			switch {
			case node >= 0 && node < nodes:
				after(t, w, fmt.Sprintf("source %d x", node))
			case node >= 0 && node < 5:
				isRefused(t, w, actOf(fmt.Sprintf("source %d x", node)), "node")
			default:
				isRefused(t, w, actOf(fmt.Sprintf("source %d x", node)), "reg", "node")
			}
		}
	}
	isRefused(t, w, actOf("source 3 new"), "down")
	isRefused(t, w, actOf("source 3 x"), "reg", "down")
	isRefused(t, w, actOf("source 4 x"), "reg", "node")
}

// Nodes that know other things than the register.
func TestDefinitionsThatNodesRefuse(t *testing.T) {
	w := withReg(withMill(newWorld(t, 2), busyNode(t)), "far", "")
	isRefused(t, w, actOf("source 1 x"), "mill")                    // it has it
	isRefused(t, w, actOf("define 1 s far"), "mill")                // it has it
	isRefused(t, w, actOf("source 1 old"), "mill")                  // it knows it is no more
	isRefused(t, withReg(w, "", ""), actOf("source 1 far"), "mill") // a cell there leans on it
	isRefused(t, w, actOf("source 1 far"), "reg", "mill")
	isRefused(t, withMill(newWorld(t, 2), fullNode(t)), actOf("source 1 x"), "mill") // it has no room
	isRefused(t, withMill(newWorld(t, 2), fullLog(t, 200)), actOf("source 1 new"), "mill")
	after(t, withMill(newWorld(t, 2), fullLog(t, 199)), "source 1 new")
	// at another node nothing of that holds
	after(t, w, "source 0 x", "source 0 old", "define 0 s far")
	// a removal that fell, and a node that still leans on what is no more elsewhere
	w = worldOf(t, 2, "source 0 x", "define 1 d x", "fuse 1 0")
	w = isDone(t, w, actOf("remove d"), impl.WorldFell)
	w = after(t, w, "rise 1 -1", "remove x")
	if len(w.Reg.Sigs) > 0 || !slices.Equal(w.Reg.Gone, []string{"d", "x"}) || len(w.Mills[1].Cells) != 1 {
		t.Error(worldText(w))
	}
	isRefused(t, w, actOf("source 0 d"), "reg")
	isRefused(t, w, actOf("source 1 x"), "reg", "mill")
}

// At each raw step: the register has what the node began, whatever of it the node has when it comes back.
func TestDefinitionsThatFell(t *testing.T) {
	for _, line := range []string{"source 1 n", "define 1 n x * 2 + y"} {
		a := actOf(line)
		size := len(modelRecBytes(define(a.Name, a.Text)))
		for fuse := range size + 3 {
			w := after(t, busyWorld(t), fmt.Sprintf("fuse 1 %d", fuse))
			if fuse > size {
				isDone(t, w, a, impl.WorldDone)
				continue
			}
			then := isDone(t, w, a, impl.WorldFell)
			m := then.Mills[1]
			if at := impl.RegAt(then.Reg, "n"); at != len(w.Reg.Sigs) || !m.Disk.Down || len(m.Cells) > 0 || !sameWay(then.Way, w.Way) {
				t.Errorf("fuse %d: %s", fuse, worldText(then))
			}
			isRefused(t, then, a, "reg", "down")
			isRefused(t, then, actOf("source 0 n"), "reg")
			up := after(t, then, "rise 1 -1")
			if _, there := cellOf(up.Mills[1], "n"); there != (fuse == size) {
				t.Errorf("fuse %d: %s", fuse, worldText(up))
			}
			// others may lean on it, though it may never show anything
			up = after(t, up, "define 0 k n + 1", "tick 0")
			if got := sent(w, up); !strings.HasSuffix(got, "; 0 1 asks n") {
				t.Errorf("fuse %d: %q", fuse, got)
			}
			// what the node lost can be removed all the same, but never comes back
			up = after(t, up, "remove k", "remove n")
			isRefused(t, up, actOf("source 0 n"), "reg")
		}
	}
}

func TestRemovals(t *testing.T) {
	w := busyWorld(t)
	then := after(t, w, "remove e")
	if !slices.Equal(then.Reg.Gone, []string{"e", "old"}) || !slices.Equal(then.Mills[0].Gone, []string{"e", "old"}) || impl.RegAt(then.Reg, "e") >= 0 || !sameWay(then.Way, w.Way) {
		t.Error(worldText(then))
	}
	then = after(t, then, "remove unset", "remove d")
	if !slices.Equal(then.Reg.Gone, []string{"d", "e", "old", "unset"}) || !slices.Equal(then.Mills[1].Gone, []string{"d"}) || slices.ContainsFunc(then.Mills[1].Subs, func(s impl.Sub) bool { return s.Name == "d" }) {
		t.Error(worldText(then))
	}
	isRefused(t, then, actOf("remove d"), "reg")
	isRefused(t, then, actOf("source 1 d"), "reg", "mill")
	isRefused(t, then, actOf("source 0 d"), "reg")
}

func TestRemovalsThatAreRefused(t *testing.T) {
	w := busyWorld(t)
	for _, line := range []string{"remove old", "remove k", "remove ", "remove X"} {
		isRefused(t, w, actOf(line), "reg")
	}
	isRefused(t, w, actOf("remove x"), "reg") // others lean on it, though no cell of its own node does
	isRefused(t, w, actOf("remove g"), "down")
	isRefused(t, w, actOf("remove w"), "reg", "down")
	isRefused(t, withReg(w, "x@4", ""), actOf("remove x"), "node")
	isRefused(t, withReg(w, "x@4; k = x", ""), actOf("remove x"), "reg", "node")
	many := copyOfWorld(w)
	many.Reg.Gone = numbered("g", 60)
	isRefused(t, many, actOf("remove e"), "reg")
	many.Reg.Gone = many.Reg.Gone[:59]
	after(t, many, "remove e")
	// a node that leans on it, though the register knows nothing of that
	own := withReg(withMill(newWorld(t, 2), busyNode(t)), "x@1; u@1 = x; y@1", "")
	isRefused(t, own, actOf("remove x"), "reg", "mill")
	isRefused(t, own, actOf("remove y"), "mill")
	after(t, own, "remove u")
	full := withReg(withMill(newWorld(t, 2), fullLog(t, 200)), "x@1; none@1; k@1 = x", "")
	isRefused(t, full, actOf("remove x"), "reg", "mill")
	isRefused(t, withReg(full, "x@1", ""), actOf("remove x"), "mill")
	after(t, full, "remove none") // nothing need be written
	after(t, withReg(withMill(full, fullLog(t, 199)), "x@1", ""), "remove x")
}

// What a node lost, or never had, is removed from the register alone.
func TestRemovalsOfWhatANodeHasNot(t *testing.T) {
	w := withReg(busyWorld(t), "x@0; never@2; far@1 = x", "")
	then := after(t, w, "remove never", "remove far")
	if !sameMills(then.Mills, w.Mills) || !slices.Equal(then.Reg.Gone, []string{"far", "never"}) || !sameWay(then.Way, w.Way) {
		t.Error(worldText(then))
	}
	w = worldOf(t, 2, "source 0 x", "fuse 0 0")
	w = isDone(t, w, actOf("source 0 lost"), impl.WorldFell)
	isRefused(t, w, actOf("remove lost"), "down")
	w = after(t, w, "rise 0 0")
	then = after(t, w, "remove lost")
	if !sameMills(then.Mills, w.Mills) || then.Mills[0].Disk.Fuse != 0 {
		t.Error(worldText(then))
	}
}

// At each raw step: the register is without what a node began to remove, whatever the node has when it comes back.
func TestRemovalsThatFell(t *testing.T) {
	size := len(modelRecBytes(remove("e")))
	for fuse := range size + 3 {
		w := after(t, busyWorld(t), fmt.Sprintf("fuse 0 %d", fuse))
		if fuse > size {
			isDone(t, w, actOf("remove e"), impl.WorldDone)
			continue
		}
		then := isDone(t, w, actOf("remove e"), impl.WorldFell)
		if impl.RegAt(then.Reg, "e") >= 0 || !slices.Contains(then.Reg.Gone, "e") || !then.Mills[0].Disk.Down || len(then.Mills[0].Gone) > 0 {
			t.Errorf("fuse %d: %s", fuse, worldText(then))
		}
		isRefused(t, then, actOf("remove e"), "reg")
		up := after(t, then, "rise 0 -1")
		if _, there := cellOf(up.Mills[0], "e"); there != (fuse < size) {
			t.Errorf("fuse %d: %s", fuse, worldText(up))
		}
		if _, ok := impl.WorldRead(up, "e"); ok {
			t.Error("it is read")
		}
		isRefused(t, up, actOf("source 1 e"), "reg")
		// it goes on for itself where it is still there, and others do not miss it
		up = after(t, up, "tick 0", "remove d")
		isRefused(t, up, actOf("remove y"), "reg")
	}
}

func TestSets(t *testing.T) {
	w := busyWorld(t)
	then := after(t, w, "set x 9")
	if got := sent(w, then); got != "0 1 tells x 9 x:3; 0 2 tells x 9 x:3" {
		t.Error(got)
	}
	then = after(t, w, "set y -9223372036854775808")
	if got := sent(w, then); got != "1 0 tells y -9223372036854775808 y:3; 1 2 tells y -9223372036854775808 y:3" {
		t.Error(got)
	}
	if got := sent(w, after(t, w, "set unset 0")); got != "-" {
		t.Error(got)
	}
	// what leans on it at its own node follows, and what it shows is sent, too
	w = worldOf(t, 2, "source 0 x", "define 0 s x + 1", "define 0 t s + x", "define 1 u t + x", "define 1 v s")
	w = after(t, w, "tick 1", "give 0", "give 0", "give 0", "set x 5")
	if got := modelWay(w); got != "0 1 tells x 5 x:1; 0 1 tells s 6 x:1; 0 1 tells t 11 x:1" {
		t.Error(got)
	}
	if got := worldShows(t, w); got != "x 5 x:1; s 6 x:1; t 11 x:1" {
		t.Error(got)
	}
	w = after(t, w, "give 2", "give 0", "give 0")
	if got := worldShows(t, w); got != "x 5 x:1; s 6 x:1; t 11 x:1; u 16 x:1; v 6 x:1" {
		t.Error(got)
	}
}

func TestSetsThatAreNotDone(t *testing.T) {
	w := busyWorld(t)
	for _, line := range []string{"set k 1", "set old 1", "set  1", "set if 1"} {
		isRefused(t, w, actOf(line), "reg")
	}
	isRefused(t, w, actOf("set w 1"), "down")
	isRefused(t, withReg(w, "x@4", ""), actOf("set x 1"), "node")
	asItWas := func(w impl.World, line string) {
		t.Helper()
		then := isDone(t, w, actOf(line), impl.WorldNot)
		if !sameWorld(then, w) {
			t.Errorf("%q at\n%s\nleaves\n%s", line, worldText(w), worldText(then))
		}
	}
	asItWas(w, "set d 1")                             // no source
	asItWas(withReg(w, "never@0", ""), "set never 1") // a source that its node has not
	asItWas(withReg(w, "e@0", ""), "set e 1")         // a source that is none at its node
	asItWas(withReg(withMill(newWorld(t, 2), fullLog(t, 200)), "x@1", ""), "set x 7")
	// a value that can't be said stays, unsaid
	for _, m := range []impl.Mill{fullLog(t, 199), openedOn(t, define("x", ""), lend("x", 1<<40))} {
		w := withReg(withMill(newWorld(t, 2), m), "x@1", "")
		then := isDone(t, w, actOf("set x 7"), impl.WorldNot)
		if c := then.Mills[1].Cells[0]; sameWorld(then, w) || c.Val != 7 || !c.Set || c.Said || c.Has || len(then.Way) > 0 {
			t.Error(worldText(then))
		}
	}
}

// At each raw step a node that is set falls, and what it would have said is not sent.
func TestSetsThatFell(t *testing.T) {
	w := worldOf(t, 2, "source 0 x", "define 1 d x", "tick 1", "give 0")
	size := len(modelRecBytes(value("x", 5)))
	whole := size + 1 + len(modelRecBytes(lend("x", 8))) + 1
	for fuse := range whole + 2 {
		from := after(t, w, fmt.Sprintf("fuse 0 %d", fuse))
		if fuse >= whole {
			if then := isDone(t, from, actOf("set x 5"), impl.WorldDone); modelWay(then) != "0 1 tells x 5 x:1" {
				t.Error(modelWay(then))
			}
			continue
		}
		then := isDone(t, from, actOf("set x 5"), impl.WorldFell)
		if !then.Mills[0].Disk.Down || len(then.Way) > 0 || !sameReg(then.Reg, w.Reg) {
			t.Errorf("fuse %d: %s", fuse, worldText(then))
		}
		isRefused(t, then, actOf("set x 5"), "down")
		up := after(t, then, "rise 0 -1")
		if c := up.Mills[0].Cells[0]; c.Set != (fuse >= size) || c.Has || c.Ver != 8*oneIf(fuse == whole-1) {
			t.Errorf("fuse %d: %s", fuse, worldText(up))
		}
	}
}

func TestTicksOfWorlds(t *testing.T) {
	w := busyWorld(t)
	for _, c := range []struct {
		node int
		says string
	}{
		{0, "0 1 tells x 6 x:2; 0 2 tells x 6 x:2; 0 1 asks d; 0 1 asks y"},
		{1, "1 0 tells d 10 x:1; 1 0 tells y 8 y:2; 1 2 tells y 8 y:2; 1 0 asks x"},
		{2, "2 0 asks x; 2 1 asks y"},
	} {
		then := after(t, w, fmt.Sprintf("tick %d", c.node))
		if got := sent(w, then); got != c.says {
			t.Errorf("%d: %q, not %q", c.node, got, c.says)
		}
	}
	isRefused(t, w, actOf("tick 3"), "down")
	for _, node := range []int{least, -1, 4, 5, most} {
		isRefused(t, w, actOf(fmt.Sprintf("tick %d", node)), "node")
	}
	// the register tells where inputs are at home, though no node is there; what it does not have nobody asks for
	if got := sent(w, after(t, withReg(w, "x@4; y@3", ""), "tick 2")); got != "2 4 asks x; 2 3 asks y" {
		t.Error(got)
	}
	if got := sent(w, after(t, withReg(w, "", "x y"), "tick 2")); got != "-" {
		t.Error(got)
	}
	// a node that came back says anew what it was set to, and falls if its fuse ends within
	back := after(t, w, "fall 0 0", "rise 0 -1")
	if got := sent(back, after(t, back, "tick 0")); got != "0 1 asks d; 0 1 asks y" {
		t.Error(got)
	}
	size := len(modelRecBytes(lend("x", 16)))
	for fuse := range size + 1 {
		then := isDone(t, after(t, back, fmt.Sprintf("fuse 0 %d", fuse)), actOf("tick 0"), impl.WorldFell)
		if !then.Mills[0].Disk.Down || !sameWay(then.Way, back.Way) {
			t.Errorf("fuse %d: %s", fuse, worldText(then))
		}
	}
	after(t, back, fmt.Sprintf("fuse 0 %d", size+1), "tick 0")
}

// Words that have no room are lost, those behind first.
func TestWordsThatHaveNoRoom(t *testing.T) {
	w := busyWorld(t)
	for n := 294; n <= 300; n++ {
		for line, says := range map[string]string{
			"set x 9": "0 1 tells x 9 x:3; 0 2 tells x 9 x:3",
			"tick 0":  "0 1 tells x 6 x:2; 0 2 tells x 6 x:2; 0 1 asks d; 0 1 asks y",
		} {
			from := filledWay(w, n)
			then := after(t, from, line)
			words := strings.Split(says, "; ")
			want := strings.Join(words[:min(len(words), 300-n)], "; ")
			if n == 300 {
				want = "-"
			}
			if got := sent(from, then); got != want || len(then.Way) > 300 || !sameMills(then.Mills, after(t, w, line).Mills) {
				t.Errorf("%q with %d: %q, not %q", line, n, got, want)
			}
		}
	}
	// what is given makes room for one
	for n := 298; n <= 300; n++ {
		from := filledWay(w, n)
		from.Way[0] = []byte(modelSayBytes(tell(0, 1, "x", 9, ver("x", 9))))
		from = after(t, from, "lose 5", "junk zz")
		then := after(t, from, "give 0")
		if got := modelWay(impl.World{Way: then.Way[n-1:]}); got != "1 0 tells d 18 x:9" || len(then.Way) != n {
			t.Errorf("%d: %q, %d", n, got, len(then.Way))
		}
	}
	busy := withMill(newWorld(t, 5), busyNode(t))
	says := "1 0 tells s 108 far:3 x:3; 1 4 tells s 108 far:3 x:3"
	for n := 297; n <= 300; n++ {
		from := filledWay(busy, n)
		from.Way[n-1] = []byte(modelSayBytes(tellOf("far", 7, "far:3")))
		then := after(t, from, fmt.Sprintf("give %d", n-1))
		want := strings.Join(strings.Split(says, "; ")[:min(2, 301-n)], "; ")
		if got := modelWay(impl.World{Way: then.Way[n-1:]}); got != want {
			t.Errorf("%d: %q, not %q", n, got, want)
		}
	}
}

// isGiven holds that what is under way at a place is taken out, and what it comes to.
func isGiven(t *testing.T, w impl.World, at, want int, says string) impl.World {
	t.Helper()
	then := isDone(t, w, impl.Act{Kind: impl.ActGive, N: at}, want)
	left := slices.Delete(slices.Clone(w.Way), at, at+1)
	if got := sent(impl.World{Way: left}, then); !sameWay(then.Way[:len(left)], left) || got != says || !sameReg(then.Reg, w.Reg) {
		t.Errorf("%d of %q: %q, not %q", at, modelWay(w), modelWay(then), says)
	}
	if want == impl.WorldNot && !sameMills(then.Mills, w.Mills) {
		t.Errorf("%d of %q:\n%s", at, modelWay(w), worldText(then))
	}
	return then
}

func TestWordsAreGiven(t *testing.T) {
	w := busyWorld(t)
	for _, at := range []int{least, -1, len(w.Way), len(w.Way) + 1, most} {
		isRefused(t, w, impl.Act{Kind: impl.ActGive, N: at}, "place")
	}
	isRefused(t, newWorld(t, 2), actOf("give 0"), "place")
	if got := modelWay(w); got != "0 1 tells x 6 x:2; 0 2 tells x 6 x:2; 1 0 tells y 8 y:2; 1 2 tells y 8 y:2; 0 1 tells x 6 x:2; 0 2 tells x 6 x:2; 0 1 asks d; 0 1 asks y; ; 0 1 tells x 6 x:2" {
		t.Fatal(got)
	}
	then := isGiven(t, w, 0, impl.WorldDone, "1 0 tells d 12 x:2")
	isGiven(t, then, 3, impl.WorldDone, "-")
	isGiven(t, w, 1, impl.WorldDone, "-")
	isGiven(t, w, 6, impl.WorldDone, "1 0 tells d 10 x:1")
	isGiven(t, w, 7, impl.WorldDone, "1 0 tells y 8 y:2")
	isGiven(t, w, 8, impl.WorldNot, "-")
	isGiven(t, w, 9, impl.WorldDone, "1 0 tells d 12 x:2")
	for _, c := range []struct {
		s    impl.Say
		code int
		says string
	}{
		{ask(2, 1, "d"), impl.WorldDone, "1 2 tells d 10 x:1"},
		{ask(3, 1, "d"), impl.WorldDone, "1 3 tells d 10 x:1"}, // who asked may be down
		{ask(1, 2, "unset"), impl.WorldDone, "-"},
		{ask(2, 1, "x"), impl.WorldNot, "-"},
		{ask(2, 1, "none"), impl.WorldNot, "-"},
		{gone(2, 1, "d"), impl.WorldNot, "-"},
		{tell(2, 1, "y", 9, ver("y", 99)), impl.WorldNot, "-"},
		{tell(0, 1, "none", 9, ver("y", 99)), impl.WorldDone, "-"},
		{tell(0, 1, "x", 9, ver("x", 99)), impl.WorldDone, "1 0 tells d 18 x:99"},
		{tell(0, 1, "x", 9, ver("x", 1)), impl.WorldDone, "-"},
		// to and from nodes that there are not
		{ask(2, 4, "d"), impl.WorldNot, "-"}, {ask(2, 5, "d"), impl.WorldNot, "-"}, {ask(2, 9, "d"), impl.WorldNot, "-"},
		{ask(4, 1, "d"), impl.WorldNot, "-"}, {ask(5, 1, "d"), impl.WorldNot, "-"}, {ask(9, 1, "d"), impl.WorldNot, "-"},
		{tell(4, 1, "x", 9, ver("x", 99)), impl.WorldNot, "-"}, {ask(9, 4, "d"), impl.WorldNot, "-"},
		// to one that is down
		{ask(0, 3, "w"), impl.WorldNot, "-"}, {ask(9, 3, "w"), impl.WorldNot, "-"}, {tell(1, 3, "s", 9, ver("x", 9)), impl.WorldNot, "-"},
	} {
		for at, from := range []impl.World{withWay(w, c.s), isDone(t, w, junkOf(c.s), impl.WorldDone)} {
			isGiven(t, from, at*len(w.Way), c.code, c.says)
		}
	}
	raw := []byte(modelSayBytes(ask(2, 1, "d")))
	for _, b := range [][]byte{nil, {0}, raw[:len(raw)-1], append(slices.Clone(raw), 0), make([]byte, 260)} {
		from := isDone(t, w, impl.Act{Kind: impl.ActJunk, Raw: b}, impl.WorldDone)
		isGiven(t, from, len(w.Way), impl.WorldNot, "-")
	}
}

// withWay is a world in which nothing is under way but this word.
func withWay(w impl.World, s impl.Say) impl.World {
	w = copyOfWorld(w)
	w.Way = [][]byte{[]byte(modelSayBytes(s))}
	return w
}

func TestWordsAreLostAndDoubled(t *testing.T) {
	w := busyWorld(t)
	for _, from := range []impl.World{w, filledWay(w, 299), newWorld(t, 2)} {
		for _, at := range []int{least, -1, len(from.Way), len(from.Way) + 1, most} {
			isRefused(t, from, impl.Act{Kind: impl.ActLose, N: at}, "place")
			isRefused(t, from, impl.Act{Kind: impl.ActCopy, N: at}, "place")
		}
		for at, b := range from.Way {
			then := isDone(t, from, impl.Act{Kind: impl.ActLose, N: at}, impl.WorldDone)
			if want := slices.Delete(slices.Clone(from.Way), at, at+1); !sameWay(then.Way, want) || !sameMills(then.Mills, from.Mills) {
				t.Error(at, modelWay(then))
			}
			then = isDone(t, from, impl.Act{Kind: impl.ActCopy, N: at}, impl.WorldDone)
			if want := append(slices.Clone(from.Way), b); !sameWay(then.Way, want) || !sameMills(then.Mills, from.Mills) {
				t.Error(at, modelWay(then))
			}
		}
	}
	full := filledWay(w, 300)
	isRefused(t, full, actOf("copy 0"), "room")
	isRefused(t, full, actOf("copy 299"), "room")
	isRefused(t, full, actOf("copy 300"), "place", "room")
	isRefused(t, full, actOf("copy -1"), "place", "room")
	after(t, full, "lose 0", "copy 298", "lose 299", "copy 0")
}

func TestBytesThatAreNoWords(t *testing.T) {
	w := busyWorld(t)
	for _, n := range []int{0, 1, 2, 259, 260} {
		for _, from := range []impl.World{w, newWorld(t, 2), filledWay(w, 299)} {
			raw := make([]byte, n)
			then := isDone(t, from, impl.Act{Kind: impl.ActJunk, Raw: raw}, impl.WorldDone)
			if want := append(slices.Clone(from.Way), raw); !sameWay(then.Way, want) || !sameMills(then.Mills, from.Mills) {
				t.Error(n, modelWay(then))
			}
		}
		isRefused(t, filledWay(w, 300), impl.Act{Kind: impl.ActJunk, Raw: make([]byte, n)}, "room")
	}
	for _, n := range []int{261, 262, 5000} {
		isRefused(t, w, impl.Act{Kind: impl.ActJunk, Raw: make([]byte, n)}, "bytes")
		isRefused(t, filledWay(w, 300), impl.Act{Kind: impl.ActJunk, Raw: make([]byte, n)}, "bytes", "room")
	}
}

func TestFuses(t *testing.T) {
	w := busyWorld(t)
	for _, node := range []int{least, -1, 0, 1, 2, 3, 4, 5, most} {
		for _, n := range []int{least, -2, -1, 0, 1, 399, 400, 401, most} {
			a := impl.Act{Kind: impl.ActFuse, Node: node, N: n}
			var why []string
			switch node {
			case 0, 1, 2:
			case 3:
				why = append(why, "down")
			default:
				why = append(why, "node")
			}
			if n < -1 || n > 400 {
				why = append(why, "fuse")
			}
			if why != nil {
				isRefused(t, w, a, why...)
				continue
			}
			then := isDone(t, w, a, impl.WorldDone)
			want := copyOfWorld(w)
			want.Mills[node].Disk.Fuse = n
			if !sameWorld(then, want) {
				t.Error(a, worldText(then))
			}
		}
	}
}

func TestFallsOfNodes(t *testing.T) {
	w := busyWorld(t)
	for node := range 3 {
		for _, keep := range []int{0, 1, 400, most} {
			then := isDone(t, w, impl.Act{Kind: impl.ActFall, Node: node, N: keep}, impl.WorldDone)
			if m := then.Mills[node]; !m.Disk.Down || len(m.Cells)+len(m.Subs)+len(m.Gone) > 0 || string(m.Disk.Safe) != string(w.Mills[node].Disk.Safe) || m.Disk.Fuse != -1 || m.Home != node || !sameWay(then.Way, w.Way) || !sameReg(then.Reg, w.Reg) {
				t.Error(worldText(then))
			}
			isRefused(t, then, impl.Act{Kind: impl.ActFall, Node: node, N: keep}, "disk")
		}
		for _, keep := range []int{-1, least} {
			isRefused(t, w, impl.Act{Kind: impl.ActFall, Node: node, N: keep}, "disk")
		}
	}
	for _, node := range []int{least, -1, 4, 5, most} {
		isRefused(t, w, impl.Act{Kind: impl.ActFall, Node: node}, "node")
		isRefused(t, w, impl.Act{Kind: impl.ActFall, Node: node, N: -1}, "node")
	}
	isRefused(t, w, actOf("fall 3 0"), "disk")
	isRefused(t, w, actOf("fall 3 -1"), "disk")
}

func TestRisesOfNodes(t *testing.T) {
	w := after(t, busyWorld(t), "fall 1 0")
	for _, node := range []int{1, 3} {
		for _, fuse := range []int{-1, 0, 1, 400} {
			then := isDone(t, w, impl.Act{Kind: impl.ActRise, Node: node, N: fuse}, impl.WorldDone)
			if m := then.Mills[node]; m.Disk.Down || m.Disk.Fuse != fuse || len(m.Cells) != 2 || m.Cells[0].Ver != 8 || shownText(m) != "" || len(m.Subs) > 0 || !sameWay(then.Way, w.Way) {
				t.Error(worldText(then))
			}
		}
		for _, fuse := range []int{least, -2, 401, most} {
			isRefused(t, w, impl.Act{Kind: impl.ActRise, Node: node, N: fuse}, "disk")
		}
	}
	for _, node := range []int{least, -1, 4, 5, most} {
		isRefused(t, w, impl.Act{Kind: impl.ActRise, Node: node, N: -1}, "node")
		isRefused(t, w, impl.Act{Kind: impl.ActRise, Node: node, N: -2}, "node")
	}
	isRefused(t, w, actOf("rise 0 -1"), "disk")
	isRefused(t, w, actOf("rise 0 -2"), "disk")
	// what stands on the disk may be no book
	bad := withMill(w, impl.Mill{Home: 1, Disk: lying(joined([]impl.Rec{value("x", 1)})).disk()})
	isRefused(t, bad, actOf("rise 1 -1"), "disk")
	// what is not whole is cut away, if the fuse lasts so long
	torn := withMill(w, impl.Mill{Home: 1, Disk: lying(joined([]impl.Rec{define("x", "")}) + "torn").disk()})
	fell := isDone(t, torn, actOf("rise 1 0"), impl.WorldFell)
	if !sameWorld(fell, torn) {
		t.Error(worldText(fell))
	}
	then := isDone(t, torn, actOf("rise 1 1"), impl.WorldDone)
	if m := then.Mills[1]; len(m.Cells) != 1 || m.Disk.Fuse != 0 || string(m.Disk.Safe) != joined([]impl.Rec{define("x", "")}) {
		t.Error(worldText(then))
	}
	after(t, torn, "rise 1 -1")
}
