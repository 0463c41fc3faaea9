package tests

import (
	"math/rand"
	"slices"
	"testing"

	"loop.example/headrace/impl"
)

func roomyDisk(d impl.Disk) impl.Disk {
	return impl.Disk{Safe: roomy(d.Safe, 0xA5), Soft: roomy(d.Soft, 0xA5), Fuse: d.Fuse, Down: d.Down}
}

func roomyRecs(l []impl.Rec) []impl.Rec {
	l = slices.Clone(l)
	for i := range l {
		l[i].Name, l[i].Text = roomyText(l[i].Name), roomyText(l[i].Text)
	}
	return roomy(l, impl.Rec{Kind: -1, Name: "guard", Num: -1, Text: "guard"})
}

func roomyCells(cells []impl.Cell) []impl.Cell {
	cells = slices.Clone(cells)
	for i := range cells {
		c := &cells[i]
		c.Name, c.Body = roomyText(c.Name), roomyText(c.Body)
		c.Ins, c.Wins, c.Out = roomyTexts(c.Ins), roomyWindows(c.Wins), roomyItem(c.Out)
	}
	return roomy(cells, impl.Cell{Name: "guard", Body: "guard", Val: -1})
}

func roomyMill(m impl.Mill) impl.Mill {
	subs := slices.Clone(m.Subs)
	for i := range subs {
		subs[i].Name = roomyText(subs[i].Name)
	}
	return impl.Mill{Home: m.Home, Disk: roomyDisk(m.Disk), Cells: roomyCells(m.Cells), Gone: roomyTexts(m.Gone), Subs: roomy(subs, impl.Sub{Name: "guard", Peer: -1, Left: -1})}
}

func roomySay(s impl.Say) impl.Say {
	s.Name, s.Stamp = roomyText(s.Name), slices.Clone(s.Stamp)
	for i := range s.Stamp {
		s.Stamp[i].Src = roomyText(s.Stamp[i].Src)
	}
	s.Stamp = roomy(s.Stamp, ver("guard", -1))
	return s
}

func roomyCall(c millCall) millCall {
	return millCall{kind: c.kind, name: roomyText(c.name), body: roomyText(c.body), num: c.num, say: roomySay(c.say), reg: roomyReg(c.reg)}
}

func TestBooksAreNewMemory(t *testing.T) {
	r := rand.New(rand.NewSource(340))
	told := 0
	for range 800 {
		plain := randomBook(r, r.Intn(30))
		if r.Intn(4) == 0 {
			plain = append(plain, randomRecord(r, plain))
		}
		l := roomyRecs(plain)
		keepsApart(t, func() many {
			cells, gone, ok := impl.MillBook(l)
			told += oneIf(ok)
			return many{cells, gone}
		}, l)
	}
	if told < 400 {
		t.Fatal(told)
	}
}

func TestOpenedNodesAreNewMemory(t *testing.T) {
	r := rand.New(rand.NewSource(341))
	var codes [3]int
	for range 800 {
		all := joined(randomBook(r, r.Intn(20)))
		switch r.Intn(6) {
		case 0:
			all = all[:r.Intn(len(all)+1)]
		case 1:
			all += joined([]impl.Rec{randomRec(r)})
		}
		parts := r.Intn(len(all) + 1)
		s := shelf{safe: all[:parts], soft: all[parts:], fuse: r.Intn(3) - 1}
		if r.Intn(4) == 0 {
			s = lying(all)
		}
		d := roomyDisk(s.disk())
		keepsApart(t, func() many {
			m, code := impl.MillOpen(r.Intn(6), d)
			codes[code]++
			return many{m}
		}, d)
	}
	if slices.Min(codes[:]) < 50 {
		t.Fatal(codes)
	}
}

// callKeepsApart holds that a call at a node, and reading it, answer new memory and leave their arguments alone.
func callKeepsApart(t *testing.T, m impl.Mill, c millCall) int {
	t.Helper()
	m, c = roomyMill(m), roomyCall(c)
	code := 0
	keepsApart(t, func() many {
		a := c.do(m)
		code = a.code
		return many{a.m, a.says}
	}, m, c.name, c.body, c.say, c.reg)
	names := []string{c.name}
	for _, cell := range m.Cells {
		names = append(names, cell.Name)
	}
	names = roomyTexts(names)
	keepsApart(t, func() many {
		impl.MillOk(m)
		answers := many{}
		for i, name := range names {
			it, _ := impl.MillRead(m, name)
			vals, s, _ := impl.MillReads(m, names[i:])
			answers = append(answers, it, vals, s)
		}
		return answers
	}, m, names)
	return code
}

func TestNodesAreNewMemory(t *testing.T) {
	r := rand.New(rand.NewSource(342))
	var codes [callKinds][9]int
	for range 80 {
		playNode(r, 40, func(m impl.Mill, c millCall, _ answer) {
			codes[c.kind][callKeepsApart(t, m, c)]++
		})
	}
	for range 500 {
		m := anyMill(r)
		c := randomCall(r, m, r.Intn(8))
		if r.Intn(5) == 0 {
			turnMill(r, &m)
		}
		codes[c.kind][callKeepsApart(t, m, c)]++
	}
	for kind := range codes {
		if codes[kind][impl.MillDone] < 20 {
			t.Error(kind, codes[kind])
		}
	}
}

// Each code, also those that plays seldom meet.
func TestNodesAtEachCodeAreNewMemory(t *testing.T) {
	end := openedOn(t, define("x", ""), value("x", 5), lend("x", 1<<40))
	full := openedOn(t, behind([]impl.Rec{define("x", "")}, slices.Repeat([]impl.Rec{value("x", 5)}, 199)...)...)
	almost := openedOn(t, behind([]impl.Rec{define("x", "")}, slices.Repeat([]impl.Rec{value("x", 5)}, 198)...)...)
	for _, c := range []struct {
		m    impl.Mill
		c    millCall
		code int
	}{
		{end, millCall{kind: callSet, name: "x", num: 1}, impl.MillEnd},
		{end, millCall{kind: callTick}, impl.MillDone},
		{full, millCall{kind: callSet, name: "x", num: 1}, impl.MillFull},
		{almost, millCall{kind: callSet, name: "x", num: 1}, impl.MillFull},
		{full, millCall{kind: callDefine, name: "y"}, impl.MillFull},
		{full, millCall{kind: callRemove, name: "x"}, impl.MillFull},
		{fullNode(t), millCall{kind: callDefine, name: "y"}, impl.MillFull},
		{fullNode(t), millCall{kind: callTick}, impl.MillDone},
		{busyNode(t), millCall{kind: callTick, reg: tickReg}, impl.MillDone},
		{busyNode(t), millCall{kind: callTake, say: tellOf("far", 1, "far:9")}, impl.MillDone},
		{busyNode(t), millCall{kind: callTake, say: ask(0, 1, "s")}, impl.MillDone},
		{busyNode(t), millCall{kind: callTake, say: gone(0, 1, "s")}, impl.MillNone},
		{busyNode(t), millCall{kind: callDefine, name: "new", body: "s + t + x"}, impl.MillDone},
		{busyNode(t), millCall{kind: callRemove, name: "u"}, impl.MillDone},
		{busyNode(t), millCall{kind: callSet, name: "x", num: 1}, impl.MillDone},
	} {
		if code := callKeepsApart(t, c.m, c.c); code != c.code {
			t.Errorf("%v: %d, not %d", c.c, code, c.code)
		}
	}
}

// What is answered stays as it is whatever becomes of the arguments, and of other answers.
func TestAnswersOfNodesStay(t *testing.T) {
	r := rand.New(rand.NewSource(343))
	for range 300 {
		m := roomyMill(anyMill(r))
		c := randomCall(r, m, r.Intn(8))
		a, other := c.do(m), c.do(m)
		want := many{a.m, a.says}.contents()
		spoilMill(other.m)
		spoil(other.says, impl.Say{Name: "spoilt"})
		spoilMill(m)
		if (many{a.m, a.says}).contents() != want {
			t.Fatalf("%v: %v became another", c, a)
		}
	}
}

func spoilMill(m impl.Mill) {
	for _, c := range m.Cells {
		for _, w := range c.Wins {
			for _, it := range w {
				spoil(it.Stamp, mark("spoilt", -1))
			}
			spoil(w, impl.Item{Val: -1})
		}
		spoil(c.Wins, nil)
		spoil(c.Ins, "spoilt")
		spoil(c.Out.Stamp, mark("spoilt", -1))
	}
	spoil(m.Cells, impl.Cell{Name: "spoilt"})
	spoil(m.Gone, "spoilt")
	spoil(m.Subs, impl.Sub{Name: "spoilt"})
	spoilDisk(m.Disk)
}
