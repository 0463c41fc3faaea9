package tests

import (
	"fmt"
	"slices"
	"strings"
	"testing"

	"loop.example/headrace/impl"
)

// holdsAt holds the answer of a call at a node against the model's and the code that is told, and sees that a code leaves the node as it was, or nothing, or but its disk.
func holdsAt(t *testing.T, m impl.Mill, got, model answer, want int) answer {
	t.Helper()
	if got.code != want || !got.same(model) {
		t.Errorf("at %s:\n%v, not\n%v (%d)", millText(m), got, model, want)
	}
	if got.code == impl.MillBad {
		if !got.same(answer{code: impl.MillBad}) {
			t.Errorf("at %s: %v", millText(m), got)
		}
		return got
	}
	if !impl.MillOk(got.m) || got.m.Home != m.Home || got.code != impl.MillDone && len(got.says) > 0 {
		t.Errorf("at %s: %v, %q", millText(m), got, wrongIn(got.m))
	}
	switch got.code {
	case impl.MillHas, impl.MillNone, impl.MillUsed, impl.MillHeld:
		if !sameMill(got.m, m) {
			t.Errorf("at %s: %v", millText(m), got)
		}
	case impl.MillDown:
		if !got.m.Disk.Down {
			t.Errorf("at %s: %v", millText(m), got)
		}
	}
	return got
}

func defines(t *testing.T, m impl.Mill, name, body string, want int) impl.Mill {
	t.Helper()
	return holdsAt(t, m, defineAt(m, name, body), modelDefine(m, name, body), want).m
}

func removes(t *testing.T, m impl.Mill, name string, want int) impl.Mill {
	t.Helper()
	return holdsAt(t, m, removeAt(m, name), modelRemove(m, name), want).m
}

// sets also tells what is said, as lines.
func sets(t *testing.T, m impl.Mill, name string, val, want int) (impl.Mill, string) {
	t.Helper()
	a := holdsAt(t, m, setAt(m, name, val), modelSet(m, name, val), want)
	return a.m, saysText(a.says)
}

// shownText is what cells show, as a text: name, value and stamp of each.
func shownText(m impl.Mill) string {
	var all []string
	for _, c := range m.Cells {
		if c.Has {
			all = append(all, fmt.Sprintf("%s %d %s", c.Name, c.Out.Val, modelStampText(c.Out.Stamp)))
		}
	}
	return strings.Join(all, "; ")
}

func TestSignalsAreDefined(t *testing.T) {
	m := openedOn(t)
	for _, x := range [][2]string{{"x", ""}, {"s", "x * 2 + far"}, {"abcdefgh", " s+x"}, {"y", ""}, {"t", "let q = far in q + other"}} {
		m = defines(t, m, x[0], x[1], impl.MillDone)
		if c := m.Cells[len(m.Cells)-1]; c.Name != x[0] || c.Body != x[1] || c.Has || c.Ver != 0 {
			t.Errorf("%+v", c)
		}
	}
	if want := joined([]impl.Rec{define("x", ""), define("s", "x * 2 + far"), define("abcdefgh", " s+x"), define("y", ""), define("t", "let q = far in q + other")}); string(m.Disk.Safe) != want || len(m.Subs) > 0 {
		t.Error(millText(m))
	}
	if !slices.Equal(m.Cells[4].Ins, []string{"far", "other"}) || len(m.Cells[4].Wins) != 2 {
		t.Error(millText(m))
	}
	// what is there beside it stays as it is
	busy := busyNode(t)
	then := defines(t, busy, "new", "", impl.MillDone)
	if !sameCells(then.Cells[:len(busy.Cells)], busy.Cells) || !slices.Equal(then.Subs, busy.Subs) || !slices.Equal(then.Gone, busy.Gone) {
		t.Error(millText(then))
	}
}

// What its inputs show comes to a signal when it is defined, in the order of their names.
func TestSignalsThatAreDefinedBehindTheirInputs(t *testing.T) {
	m := busyNode(t)
	for _, c := range []struct{ body, shown string }{
		{"x + 1", "new 6 x:3"},
		{"y", "new 9 y:2"},
		{"w + 1", ""},
		{"x + w", ""},
		{"x - y", "new -4 x:3 y:2"},
		{"y - x", "new 4 x:3 y:2"},
		{"t + s + x", "new 26 far:2 x:3"},
		{"t + s + y", "new 30 far:2 x:3 y:2"},
		{"s + elsewher", ""},
		{"u", ""},
		{spentBody, "new 0 x:3"},
		{"0 - " + spentBody, "new 0 x:3"},
	} {
		then := defines(t, m, "new", c.body, impl.MillDone)
		shown := strings.TrimPrefix(strings.TrimPrefix(shownText(then), shownText(m)), "; ")
		if shown != c.shown || strings.Contains(shownText(m), "new") {
			t.Errorf("%q: %q, not %q", c.body, shown, c.shown)
		}
		c := then.Cells[6]
		for i, in := range c.Ins {
			if has, _ := cellOf(m, in); has.Has != (len(c.Wins[i]) == 1) || has.Has && !sameItem(c.Wins[i][0], has.Out) {
				t.Errorf("%q of %+v", in, c)
			}
		}
	}
	// stamps that do not agree are kept, and nothing is shown
	m.Cells[4].Out = item(14, "far:1 x:3")
	if then := defines(t, m, "new", "s + t", impl.MillDone); then.Cells[6].Has || len(then.Cells[6].Wins[0]) != 1 || len(then.Cells[6].Wins[1]) != 1 {
		t.Error(millText(then))
	}
	// nor is what would have too great a stamp
	m.Cells[3].Out.Stamp, m.Cells[4].Out.Stamp = wideMarks(12), marks("zz:1")
	if then := defines(t, m, "new", "s + t", impl.MillDone); then.Cells[6].Has || len(then.Cells[6].Wins[1]) != 1 {
		t.Error(millText(then))
	}
}

// A cell stands behind its inputs, or they live elsewhere: ahead of one that leans on it none comes.
func TestSignalsAheadOfTheirInputs(t *testing.T) {
	m := openedOn(t)
	m = defines(t, m, "a", "", impl.MillDone)
	m = defines(t, m, "s", "a + b", impl.MillDone)
	defines(t, m, "b", "", impl.MillHeld)
	defines(t, m, "b", "a", impl.MillHeld)
	m, _ = sets(t, m, "a", 1, impl.MillDone)
	m = defines(t, m, "t", "s + a", impl.MillDone)
	if shownText(m) != "a 1 a:1" {
		t.Error(shownText(m))
	}
	m = removes(t, removes(t, m, "t", impl.MillDone), "s", impl.MillDone)
	m = defines(t, m, "b", "a", impl.MillDone)
	m = defines(t, m, "v", "a + b", impl.MillDone)
	if shownText(m) != "a 1 a:1; b 1 a:1; v 2 a:1" {
		t.Error(shownText(m))
	}
}

func TestEachCodeOfDefinitions(t *testing.T) {
	busy, full, down := busyNode(t), fullNode(t), impl.Mill{Home: 1, Disk: lying("x").disk()}
	log200 := openedOn(t, behind([]impl.Rec{define("x", "")}, slices.Repeat([]impl.Rec{value("x", 1)}, 199)...)...)
	bad := busyNode(t)
	bad.Gone = nil
	for _, c := range []struct {
		m          impl.Mill
		name, body string
		codes      []int
	}{
		{busy, "new", "", nil}, {busy, "new", "x", nil}, {busy, "bb", "", nil}, {busy, "new", "let new = x in new", nil}, {busy, "new", "old + b", nil},
		{busy, "x", "", []int{impl.MillHas, impl.MillHeld}}, {busy, "t", "", []int{impl.MillHas}}, {busy, "u", "y + w", []int{impl.MillHas}}, {busy, "u", "u", []int{impl.MillHas, impl.MillHeld}},
		{busy, "old", "", []int{impl.MillUsed}}, {busy, "b", "x", []int{impl.MillUsed}}, {busy, "old", "old + 1", []int{impl.MillUsed, impl.MillHeld}},
		{busy, "far", "", []int{impl.MillHeld}}, {busy, "far", "x", []int{impl.MillHeld}}, {busy, "new", "new", []int{impl.MillHeld}}, {busy, "new", "x + new", []int{impl.MillHeld}}, {busy, "far", "far", []int{impl.MillHeld}},
		{full, "new", "", []int{impl.MillFull}}, {full, "new", "n00", []int{impl.MillFull}}, {full, "n03", "", []int{impl.MillHas, impl.MillFull}}, {full, "new", "new", []int{impl.MillHeld, impl.MillFull}}, {full, "n03", "n03", []int{impl.MillHas, impl.MillHeld, impl.MillFull}},
		{down, "new", "", []int{impl.MillDown}}, {down, "new", "new", []int{impl.MillDown, impl.MillHeld}}, {down, "x", "", []int{impl.MillDown}},
		{down, "New", "", []int{impl.MillBad, impl.MillDown}}, {down, "new", "7", []int{impl.MillBad, impl.MillDown}},
		{bad, "new", "", []int{impl.MillBad}}, {bad, "x", "", []int{impl.MillBad, impl.MillHas, impl.MillHeld}}, {bad, "far", "", []int{impl.MillBad, impl.MillHeld}},
		{log200, "x", "", []int{impl.MillHas}}, {log200, "new", "new", []int{impl.MillHeld}},
	} {
		if codes := defineCodes(c.m, c.name, c.body); !slices.Equal(codes, c.codes) {
			t.Errorf("%q %q: %v, not %v", c.name, c.body, codes, c.codes)
		}
		defines(t, c.m, c.name, c.body, append(c.codes, impl.MillDone)[0])
	}
	if then := defines(t, log200, "new", "", impl.MillFull); !sameMill(then, log200) {
		t.Error(millText(then))
	}
	for _, name := range noNames {
		defines(t, busy, name, "", impl.MillBad)
	}
	for _, body := range []string{"7", " ", "x +", "a + b + c + d + e", "let a = 1 in a", "X", strings.Repeat(" ", 200) + "x"} {
		defines(t, busy, "new", body, impl.MillBad)
		defines(t, busy, "x", body, impl.MillBad)
		defines(t, busy, "old", body, impl.MillBad)
	}
	defines(t, busy, "new", strings.Repeat(" ", 199)+"x", impl.MillDone)
	for n := 14; n <= 16; n++ {
		m := openedOn(t)
		for _, name := range numbered("m", n) {
			m = defines(t, m, name, "", impl.MillDone)
		}
		defines(t, m, "new", "", [2]int{impl.MillDone, impl.MillFull}[oneIf(n == 16)])
	}
}

// fallsWithin holds that a call that puts records falls at each raw step of them: what is on the disk then is what was written, and nothing else is left of the node. With as many steps as it takes it is done.
func fallsWithin(t *testing.T, m impl.Mill, call func(m impl.Mill) answer, model func(m impl.Mill) answer, recs ...impl.Rec) {
	t.Helper()
	var written []string // what was written ahead of each raw step
	all := string(m.Disk.Safe)
	for _, r := range recs {
		b := modelRecBytes(r)
		for i := range len(b) + 1 {
			written = append(written, all+b[:i])
		}
		all += b
	}
	for fuse, have := range written {
		from := copyOfMill(m)
		from.Disk.Fuse = fuse
		got := holdsAt(t, from, call(from), model(from), impl.MillDown)
		if !sameMill(got.m, impl.Mill{Home: m.Home, Disk: lying(have).disk()}) {
			t.Errorf("with fuse %d: %v", fuse, got)
		}
	}
	for _, fuse := range []int{len(written), len(written) + 1, impl.DiskMaxOps, -1} {
		from := copyOfMill(m)
		from.Disk.Fuse = fuse
		got := holdsAt(t, from, call(from), model(from), impl.MillDone)
		if shelfOf(got.m.Disk) != (shelf{safe: all, fuse: max(fuse-len(written), -1)}) {
			t.Errorf("with fuse %d: %v", fuse, got)
		}
	}
}

func TestFallsWithinDefinitionsAndRemovals(t *testing.T) {
	m := busyNode(t)
	for _, x := range [][2]string{{"new", ""}, {"new", "x + y"}, {"abcdefgi", "x + elsewher"}} {
		fallsWithin(t, m, func(m impl.Mill) answer { return defineAt(m, x[0], x[1]) }, func(m impl.Mill) answer { return modelDefine(m, x[0], x[1]) }, define(x[0], x[1]))
	}
	for _, name := range []string{"t", "u"} {
		fallsWithin(t, m, func(m impl.Mill) answer { return removeAt(m, name) }, func(m impl.Mill) answer { return modelRemove(m, name) }, remove(name))
	}
}

func TestSignalsAreRemoved(t *testing.T) {
	m := busyNode(t)
	then := removes(t, m, "u", impl.MillDone)
	if !sameCells(then.Cells, m.Cells[:5]) || !slices.Equal(then.Gone, []string{"b", "old", "u"}) || !slices.Equal(then.Subs, subs("s 0 2, s 4 1, x 3 3")) {
		t.Error(millText(then))
	}
	then = removes(t, removes(t, then, "t", impl.MillDone), "s", impl.MillDone)
	if !slices.Equal(then.Gone, []string{"b", "old", "s", "t", "u"}) || !slices.Equal(then.Subs, subs("x 3 3")) {
		t.Error(millText(then))
	}
	for _, name := range []string{"x", "w", "y"} {
		then = removes(t, then, name, impl.MillDone)
	}
	if len(then.Cells) > 0 || len(then.Subs) > 0 || len(then.Gone) != 8 {
		t.Error(millText(then))
	}
	removes(t, then, "x", impl.MillNone)
	defines(t, then, "x", "", impl.MillUsed)
	// a name that comes to stand first, in the middle, last
	for name, want := range map[string]string{"a": "a b old", "n": "b n old", "z": "b old z"} {
		then := removes(t, defines(t, m, name, "", impl.MillDone), name, impl.MillDone)
		if !slices.Equal(then.Gone, strings.Fields(want)) {
			t.Errorf("%q", then.Gone)
		}
	}
}

func TestEachCodeOfRemovals(t *testing.T) {
	busy, down := busyNode(t), impl.Mill{Home: 1, Disk: lying("").disk()}
	bad := busyNode(t)
	bad.Subs[0].Left = 0
	for _, c := range []struct {
		m     impl.Mill
		name  string
		codes []int
	}{
		{busy, "t", nil}, {busy, "u", nil},
		{busy, "new", []int{impl.MillNone}}, {busy, "old", []int{impl.MillNone}}, {busy, "far", []int{impl.MillNone, impl.MillHeld}},
		{busy, "x", []int{impl.MillHeld}}, {busy, "s", []int{impl.MillHeld}}, {busy, "w", []int{impl.MillHeld}},
		{down, "x", []int{impl.MillDown, impl.MillNone}}, {down, "X", []int{impl.MillBad, impl.MillDown, impl.MillNone}},
		{bad, "t", []int{impl.MillBad}}, {bad, "far", []int{impl.MillBad, impl.MillNone, impl.MillHeld}}, {bad, "x", []int{impl.MillBad, impl.MillHeld}},
	} {
		if codes := removeCodes(c.m, c.name); !slices.Equal(codes, c.codes) {
			t.Errorf("%q: %v, not %v", c.name, codes, c.codes)
		}
		removes(t, c.m, c.name, append(c.codes, impl.MillDone)[0])
	}
	for _, name := range noNames {
		removes(t, busy, name, impl.MillBad)
	}
	log := []impl.Rec{define("x", ""), define("s", "x")}
	for n := 198; n <= 200; n++ {
		m := openedOn(t, behind(log, slices.Repeat([]impl.Rec{value("x", 1)}, n-2)...)...)
		m.Subs = subs("s 0 1, s 2 3, x 0 2")
		then := removes(t, m, "s", [2]int{impl.MillDone, impl.MillFull}[oneIf(n == 200)])
		if n == 200 && !sameMill(then, m) {
			t.Error(millText(then))
		}
		removes(t, m, "x", impl.MillHeld)
		removes(t, m, "y", impl.MillNone)
	}
}

func TestSourcesAreSet(t *testing.T) {
	m := openedOn(t, define("x", ""))
	for n, val := range []int{5, 5, -1, 0, least, most, 7, 8, 9, 10} {
		m, _ = sets(t, m, "x", val, impl.MillDone)
		want := impl.Cell{Name: "x", Val: val, Set: true, Lent: 8 * (1 + n/8), Ver: n + 1, Said: true, Has: true, Out: impl.Item{Val: val, Stamp: []impl.Mark{{Src: "x", Ver: n + 1}}}}
		if !sameCells(m.Cells, []impl.Cell{want}) {
			t.Errorf("%s, not %+v", millText(m), want)
		}
	}
	recs, _ := impl.LogRead(m.Disk.Safe)
	if len(recs) != 13 || recs[1] != value("x", 5) || recs[2] != lend("x", 8) || recs[3] != value("x", 5) || recs[11] != lend("x", 16) || recs[10] != value("x", 9) {
		t.Error(recs)
	}
}

func TestWhatSourcesSayWhenTheyAreSet(t *testing.T) {
	m := busyNode(t)
	for _, c := range []struct{ name, says, shown string }{
		{"x", "1 3 tells x 70 x:4; 1 0 tells s 171 far:2 x:4; 1 4 tells s 171 far:2 x:4", "x 70 x:4; y 9 y:2; s 171 far:2 x:4; t 342 far:2 x:4"},
		{"y", "", "x 5 x:3; y 70 y:5; s 7 far:2 x:3; t 14 far:2 x:3"},
		{"w", "1 2 tells u 170 w:1 y:2", "x 5 x:3; y 9 y:2; w 70 w:1; s 7 far:2 x:3; t 14 far:2 x:3; u 170 w:1 y:2"},
	} {
		then, says := sets(t, m, c.name, 70, impl.MillDone)
		if says != c.says || shownText(then) != c.shown {
			t.Errorf("%s: %q, %q", c.name, says, shownText(then))
		}
	}
	// of what came of another input ahead of its time nothing was shown until now
	m.Cells[3].Wins[0], m.Cells[3].Out = window("far:2 x:4"), item(7, "far:1 x:3")
	m.Cells[4].Wins[0], m.Cells[4].Out = window("far:1 x:3"), item(14, "far:1 x:3")
	then, says := sets(t, m, "x", 70, impl.MillDone)
	if says != "1 3 tells x 70 x:4; 1 0 tells s 170 far:2 x:4; 1 4 tells s 170 far:2 x:4" || shownText(then) != "x 70 x:4; y 9 y:2; s 170 far:2 x:4; t 340 far:2 x:4" {
		t.Errorf("%q, %q", says, shownText(then))
	}
	// and of what is ahead of it still nothing is
	m.Cells[3].Wins[0] = window("far:2 x:5")
	then, says = sets(t, m, "x", 70, impl.MillDone)
	if says != "1 3 tells x 70 x:4" || shownText(then) != "x 70 x:4; y 9 y:2; s 7 far:1 x:3; t 14 far:1 x:3" {
		t.Errorf("%q, %q", says, shownText(then))
	}
}

func TestEachCodeOfSetting(t *testing.T) {
	busy, down := busyNode(t), impl.Mill{Home: 1, Disk: lying("").disk()}
	bad := busyNode(t)
	bad.Cells[5].Ins = nil
	for _, c := range []struct {
		m     impl.Mill
		name  string
		codes []int
	}{
		{busy, "x", nil}, {busy, "y", nil}, {busy, "w", nil},
		{busy, "s", []int{impl.MillNone}}, {busy, "u", []int{impl.MillNone}}, {busy, "new", []int{impl.MillNone}}, {busy, "old", []int{impl.MillNone}}, {busy, "far", []int{impl.MillNone}},
		{down, "x", []int{impl.MillDown, impl.MillNone}}, {down, "X", []int{impl.MillBad, impl.MillDown, impl.MillNone}},
		{bad, "x", []int{impl.MillBad}}, {bad, "s", []int{impl.MillBad, impl.MillNone}},
	} {
		if codes := setCodes(c.m, c.name); !slices.Equal(codes, c.codes) {
			t.Errorf("%q: %v, not %v", c.name, codes, c.codes)
		}
		sets(t, c.m, c.name, 3, append(c.codes, impl.MillDone)[0])
	}
	for _, name := range noNames {
		sets(t, busy, name, 3, impl.MillBad)
	}
}

// wishedOf is a node with these cells on its log, each of which the nodes 0 and 3 want to hear of.
func wishedOf(t *testing.T, lines ...string) impl.Mill {
	t.Helper()
	var l []impl.Rec
	for _, line := range lines {
		s := sig(line)
		l = append(l, define(s.Name, s.Body))
	}
	m := openedOn(t, l...)
	for _, c := range m.Cells {
		m.Subs = append(m.Subs, impl.Sub{Name: c.Name, Peer: 0, Left: 3}, impl.Sub{Name: c.Name, Peer: 3, Left: 3})
	}
	slices.SortFunc(m.Subs, subOrder)
	return m
}

// told is the names that words to the node 0 tell of, in order; each is told to the node 3 right behind.
func told(t *testing.T, says string) string {
	t.Helper()
	var names []string
	lines := strings.Split(says, "; ")
	for i := 0; i+1 < len(lines); i += 2 {
		a, b := strings.Fields(lines[i]), strings.Fields(lines[i+1])
		if a[1] != "0" || b[1] != "3" || !slices.Equal(a[2:], b[2:]) {
			t.Errorf("%q, %q", lines[i], lines[i+1])
		}
		names = append(names, a[3])
	}
	return strings.Join(names, " ")
}

// What a cell shows is followed up ahead of the cells behind it.
func TestCellsBehindCells(t *testing.T) {
	for _, c := range []struct {
		cells []string
		order string
	}{
		{[]string{"x", "a = x", "b = x", "c = x"}, "x a b c"},
		{[]string{"x", "a = x", "b = x", "c = a"}, "x a c b"},
		{[]string{"x", "a = x", "b = a", "c = x", "d = b"}, "x a b d c"},
		{[]string{"x", "a = x", "b = x", "c = a", "d = c", "e = b", "f = x"}, "x a c d b e f"},
		{[]string{"x", "a = x", "b = x", "c = a + b"}, "x a b c"},
		{[]string{"x", "a = x", "b = a + x", "c = a", "d = x"}, "x a c b d"},
		{[]string{"x", "a = x", "b = x", "c = a + b", "d = a", "e = d + c"}, "x a d b c e"},
		{[]string{"x", "z1 = x", "y = z1", "b = y", "a = x"}, "x z1 y b a"},
		{[]string{"x", "a = x", "b = a", "c = b", "d = c", "e = d", "f = e + x", "g = f + a", "h = x"}, "x a b c d e f g h"},
	} {
		m := wishedOf(t, c.cells...)
		for n := range 3 {
			then, says := sets(t, m, "x", 10+n, impl.MillDone)
			if told(t, says) != c.order {
				t.Errorf("%q: %q, not %q", c.cells, told(t, says), c.order)
			}
			for _, cell := range then.Cells {
				if !cell.Has || len(cell.Out.Stamp) != 1 || cell.Out.Stamp[0].Ver != n+1 {
					t.Errorf("%q: %+v", c.cells, cell)
				}
			}
			m = then
		}
	}
}

// Two sources of one signal: it shows something as soon as both are there, and from then on at each of them.
func TestSignalsOfTwoSources(t *testing.T) {
	m := wishedOf(t, "x", "y", "s = x * 10 + y", "t = s - x", "u = y")
	m, says := sets(t, m, "x", 4, impl.MillDone)
	if says != "1 0 tells x 4 x:1; 1 3 tells x 4 x:1" {
		t.Error(says)
	}
	m, says = sets(t, m, "y", 2, impl.MillDone)
	if told(t, says) != "y s t u" || shownText(m) != "x 4 x:1; y 2 y:1; s 42 x:1 y:1; t 38 x:1 y:1; u 2 y:1" {
		t.Error(says, shownText(m))
	}
	m, says = sets(t, m, "x", 5, impl.MillDone)
	if told(t, says) != "x s t" || shownText(m) != "x 5 x:2; y 2 y:1; s 52 x:2 y:1; t 47 x:2 y:1; u 2 y:1" {
		t.Error(says, shownText(m))
	}
	// a body that is spent shows 0, and what leans on it goes on
	m = wishedOf(t, "x", "s = "+spentBody, "t = s + x")
	m, _ = sets(t, m, "x", 4, impl.MillDone)
	if shownText(m) != "x 4 x:1; s 0 x:1; t 4 x:1" {
		t.Error(shownText(m))
	}
}

func TestFallsWithinSetting(t *testing.T) {
	call := func(m impl.Mill) answer { return setAt(m, "x", 70) }
	model := func(m impl.Mill) answer { return modelSet(m, "x", 70) }
	busy := busyNode(t)
	fallsWithin(t, busy, call, model, value("x", 70))
	busy.Cells[0].Ver, busy.Cells[0].Out.Stamp[0].Ver = 8, 8
	fallsWithin(t, busy, call, model, value("x", 70), lend("x", 16))
	fallsWithin(t, openedOn(t, define("x", "")), call, model, value("x", 70), lend("x", 8))
	fallsWithin(t, wishedOf(t, "x", "s = x + 1"), call, model, value("x", 70), lend("x", 8))
	fallsWithin(t, openedOn(t, define("x", ""), lend("x", 5)), call, model, value("x", 70), lend("x", 13))
}

// Where the lending can't be, the value stays, unsaid; what is shown is what was shown.
func TestSettingWithoutLending(t *testing.T) {
	for last, want := range map[int]int{1<<40 - 9: impl.MillDone, 1<<40 - 8: impl.MillDone, 1<<40 - 7: impl.MillEnd, 1<<40 - 1: impl.MillEnd, 1 << 40: impl.MillEnd} {
		m := openedOn(t, define("x", ""), define("s", "x"), value("x", 5), lend("x", last))
		m.Cells[0].Said, m.Cells[0].Has, m.Cells[0].Out = true, true, impl.Item{Val: 5, Stamp: []impl.Mark{{Src: "x", Ver: last}}}
		m.Subs = subs("x 0 1")
		then, says := sets(t, m, "x", 6, want)
		recs := behind([]impl.Rec{define("x", ""), define("s", "x"), value("x", 5), lend("x", last), value("x", 6)})
		c := m.Cells[0]
		c.Val, c.Said = 6, false
		if want == impl.MillDone {
			recs = append(recs, lend("x", last+8))
			c.Said, c.Lent, c.Ver, c.Out = true, last+8, last+1, impl.Item{Val: 6, Stamp: []impl.Mark{{Src: "x", Ver: last + 1}}}
		}
		if string(then.Disk.Safe) != joined(recs) || !sameCell(then.Cells[0], c) || (says == "") != (want == impl.MillEnd) {
			t.Errorf("%d: %s says %q", last, millText(then), says)
		}
		// within what is lent there is no end
		m.Cells[0].Ver, m.Cells[0].Out.Stamp = last-1, []impl.Mark{{Src: "x", Ver: last - 1}}
		then, _ = sets(t, m, "x", 6, impl.MillDone)
		if then.Cells[0].Ver != last || then.Cells[0].Lent != last || !then.Cells[0].Said {
			t.Error(millText(then))
		}
	}
}

// filledLog tells of the source x, and has just so many bytes.
func filledLog(t *testing.T, size int) []impl.Rec {
	t.Helper()
	l := []impl.Rec{define("x", "")}
	left := size - len(joined(l))
	for _, name := range numbered("f", 99) {
		take := min(left, 215)
		if left > take && left-take < 16 {
			take -= 16
		}
		if take == 0 {
			break
		}
		l = append(l, define(name, strings.Repeat(" ", take-16)+"y"), remove(name))
		left -= take
	}
	if len(joined(l)) != size {
		t.Fatal(size, len(joined(l)))
	}
	return l
}

// A disk that has room for neither record, for the value alone, or for both: by how many records there are, and by how many bytes.
func TestSettingOnDisksThatAreFull(t *testing.T) {
	const neither, one, both = 0, 1, 2
	look := func(l []impl.Rec, room int) {
		t.Helper()
		m := openedOn(t, l...)
		m.Subs = subs("x 0 1")
		then, says := sets(t, m, "x", 6, [3]int{impl.MillFull, impl.MillFull, impl.MillDone}[room])
		c := m.Cells[0]
		switch room {
		case one:
			c.Val, c.Set = 6, true
		case both:
			c = impl.Cell{Name: "x", Val: 6, Set: true, Lent: 8, Ver: 1, Said: true, Has: true, Out: item(6, "x:1")}
		}
		if !sameCells(then.Cells, []impl.Cell{c}) || string(then.Disk.Safe) != joined(behind(l, []impl.Rec{value("x", 6), lend("x", 8)}[:room]...)) || (says == "") != (room < both) {
			t.Errorf("%d records: %s says %q", len(l), millText(then), says)
		}
	}
	for n, room := range map[int]int{1: both, 197: both, 198: both, 199: one, 200: neither} {
		look(behind([]impl.Rec{define("x", "")}, slices.Repeat([]impl.Rec{value("x", 5)}, n-1)...), room)
	}
	for left, room := range map[int]int{200: both, 27: both, 26: both, 25: one, 14: one, 13: one, 12: neither, 0: neither} {
		look(filledLog(t, 8000-left), room)
	}
	// what is lent already needs no room
	m := openedOn(t, behind(filledLog(t, 8000-26), lend("x", 8))...)
	m.Cells[0].Ver = 7
	m, _ = sets(t, m, "x", 6, impl.MillDone)
	if len(m.Disk.Safe) != 8000 || m.Cells[0].Ver != 8 || !m.Cells[0].Said {
		t.Error(millText(m))
	}
	for _, ver := range []int{8, 7, 0} {
		m.Cells[0].Ver, m.Cells[0].Said, m.Cells[0].Has, m.Cells[0].Out = ver, false, false, impl.Item{}
		if then, _ := sets(t, m, "x", 7, impl.MillFull); !sameMill(then, m) {
			t.Error(millText(then))
		}
	}
	defines(t, m, "n", "", impl.MillFull)
	removes(t, m, "x", impl.MillFull)
}

func TestNodesThatFall(t *testing.T) {
	for _, m := range []impl.Mill{busyNode(t), fullNode(t), openedOn(t), openedOn(t, someBook()...)} {
		for _, fuse := range []int{-1, 0, 400} {
			m.Disk.Fuse = fuse
			for _, keep := range []int{least, -2, -1, 0, 1, 8000, most} {
				then, ok := impl.MillFall(m, keep)
				want := impl.Mill{}
				if keep >= 0 {
					want = impl.Mill{Home: m.Home, Disk: lying(string(m.Disk.Safe)).disk()}
				}
				if ok != (keep >= 0) || !sameMill(then, want) || !impl.MillOk(then) {
					t.Errorf("%s with %d: %s %v", millText(m), keep, millText(then), ok)
				}
			}
		}
		down, _ := impl.MillFall(m, 0)
		for _, keep := range []int{-1, 0, 1} {
			if then, ok := impl.MillFall(down, keep); ok || !sameMill(then, impl.Mill{}) {
				t.Errorf("%s with %d: %s", millText(down), keep, millText(then))
			}
		}
	}
}

// rises holds MillRise against the model's MillOpen and the code that is told.
func rises(t *testing.T, m impl.Mill, fuse, want int) impl.Mill {
	t.Helper()
	then, code := impl.MillRise(m, fuse)
	model, modelCode := impl.Mill{}, impl.MillBad
	if s, ok := modelRise(shelfOf(m.Disk), fuse); ok && modelMillOk(m) {
		model, modelCode = modelOpenNode(m.Home, s.disk())
	}
	if code != want || modelCode != want || !sameMill(then, model) {
		t.Errorf("%s with %d: %s %d, not %s %d (%d)", millText(m), fuse, millText(then), code, millText(model), modelCode, want)
	}
	if !impl.MillOk(then) {
		t.Errorf("%s with %d: %s", millText(m), fuse, millText(then))
	}
	return then
}

func TestNodesThatRise(t *testing.T) {
	all := joined(someBook())
	down := impl.Mill{Home: 2, Disk: lying(all).disk()}
	for _, fuse := range []int{-1, 0, 1, 399, 400} {
		m := rises(t, down, fuse, impl.MillDone)
		if shelfOf(m.Disk) != (shelf{safe: all, fuse: fuse}) || len(m.Cells) != 3 || m.Home != 2 || m.Cells[0].Ver != 8 {
			t.Error(millText(m))
		}
		rises(t, m, fuse, impl.MillBad)
		rises(t, m, -1, impl.MillBad)
	}
	for _, fuse := range []int{-2, 401, least, most} {
		rises(t, down, fuse, impl.MillBad)
	}
	rises(t, busyNode(t), -1, impl.MillBad)
	// at each byte of a log, with a fuse that ends within the rise and one that does not
	for end := range len(all) + 1 {
		m := impl.Mill{Home: 2, Disk: lying(all[:end]).disk()}
		_, size := impl.LogRead([]byte(all[:end]))
		if then := rises(t, m, 0, [2]int{impl.MillDone, impl.MillDown}[oneIf(size < end)]); size < end && !sameMill(then, m) {
			t.Error(millText(then))
		}
		then := rises(t, m, 1, impl.MillDone)
		if shelfOf(then.Disk) != (shelf{safe: all[:size], fuse: 1 - oneIf(size < end)}) {
			t.Error(millText(then))
		}
		rises(t, m, -1, impl.MillDone)
	}
	// a disk whose records tell of no cells does not come back
	for _, fuse := range []int{-1, 0, 1} {
		rises(t, impl.Mill{Disk: lying(joined([]impl.Rec{remove("x")})).disk()}, fuse, impl.MillBad)
		rises(t, impl.Mill{Disk: lying(joined(behind(someBook(), define("x", "")))).disk()}, fuse, impl.MillBad)
		rises(t, impl.Mill{Disk: lying(joined(behind(someBook(), define("x", ""))) + "\x00").disk()}, fuse, [3]int{impl.MillBad, impl.MillDown, impl.MillBad}[fuse+1])
	}
	for _, bad := range []impl.Mill{{Home: 5, Disk: lying("").disk()}, {Home: -1, Disk: lying("").disk()}, {Disk: impl.Disk{Down: true}}, {Disk: lying("").disk(), Gone: []string{"x"}}, {Disk: lying(joined(someBook())).disk(), Subs: subs("x 1 1")}} {
		rises(t, bad, -1, impl.MillBad)
		takesNothing(t, bad)
	}
}
