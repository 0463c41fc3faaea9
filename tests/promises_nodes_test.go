package tests

import (
	"fmt"
	"maps"
	"math/rand"
	"slices"
	"strings"
	"testing"

	"loop.example/headrace/impl"
)

// ledger is what a node has answered for, by the calls and their codes alone.
type ledger struct {
	names  []string
	bodies map[string]string
	vals   map[string]int
	gone   []string
}

func newLedger() ledger { return ledger{bodies: map[string]string{}, vals: map[string]int{}} }

// note takes down what came of a call.
func (l *ledger) note(c millCall, m impl.Mill, a answer) {
	kept := c.kind == callSet && (a.code == impl.MillEnd || a.code == impl.MillFull && !sameMill(a.m, m))
	if a.code != impl.MillDone && !kept {
		return
	}
	switch c.kind {
	case callDefine:
		l.names = append(l.names, c.name)
		l.bodies[c.name] = c.body
	case callSet:
		l.vals[c.name] = c.num
	case callRemove:
		l.names = slices.DeleteFunc(l.names, func(name string) bool { return name == c.name })
		delete(l.vals, c.name)
		l.gone = slices.Sorted(slices.Values(append(l.gone, c.name)))
	}
}

func (l ledger) copy() ledger {
	return ledger{slices.Clone(l.names), maps.Clone(l.bodies), maps.Clone(l.vals), slices.Clone(l.gone)}
}

func (l ledger) String() string {
	text := ""
	for _, name := range l.names {
		val, set := l.vals[name]
		text += fmt.Sprintf("%s=%q %d %v; ", name, l.bodies[name], val, set)
	}
	return text + fmt.Sprintf("%q", l.gone)
}

// known is what a node knows of what ledgers tell.
func known(m impl.Mill) string {
	text := ""
	for _, c := range m.Cells {
		text += fmt.Sprintf("%s=%q %d %v; ", c.Name, c.Body, c.Val, c.Set)
	}
	return text + fmt.Sprintf("%q", m.Gone)
}

// back is a node that fell, or falls now, and came back; some falls are within the coming back.
func back(t *testing.T, r *rand.Rand, m impl.Mill) impl.Mill {
	t.Helper()
	if !m.Disk.Down {
		then, ok := impl.MillFall(m, r.Intn(3))
		if !ok {
			t.Fatalf("%s does not fall", millText(m))
		}
		m = then
	}
	for range 3 {
		then, code := impl.MillRise(m, r.Intn(2)*r.Intn(3))
		if code == impl.MillBad {
			t.Fatalf("%s does not rise", millText(m))
		}
		if code == impl.MillDone {
			then, _ = impl.MillFall(then, 0)
		}
		m = then
	}
	then, code := impl.MillRise(m, -1)
	if code != impl.MillDone {
		t.Fatalf("%s does not rise: %d", millText(m), code)
	}
	return then
}

func TestPromise5WhatANodeAnsweredIsThere(t *testing.T) {
	r := rand.New(rand.NewSource(5))
	answered, fell := 0, 0
	for range 150 {
		l := newLedger()
		playNode(r, 50, func(m impl.Mill, c millCall, a answer) {
			before := l.copy()
			l.note(c, m, a)
			answered += oneIf(l.String() != before.String())
			then := back(t, r, orElse(a, m))
			if a.code != impl.MillDown || m.Disk.Down {
				if known(then) != l.String() {
					t.Fatalf("%v at %s: %s came back, not %v", c, millText(m), known(then), l)
				}
				return
			}
			// what it did not answer to may be there, or not; all else is
			fell++
			after := before.copy()
			after.note(c, m, answer{code: impl.MillDone})
			switch known(then) {
			case before.String():
			case after.String():
				l = after
			default:
				t.Fatalf("%v at %s: %s came back, neither %v nor %v", c, millText(m), known(then), before, after)
			}
		})
	}
	if answered < 1000 || fell < 50 {
		t.Fatal(answered, fell)
	}
}

// orElse is what a call left, or what was there where it may not be.
func orElse(a answer, m impl.Mill) impl.Mill {
	if a.code == impl.MillBad {
		return m
	}
	return a.m
}

// At each raw step of each call: what was answered ahead of it is there, and no version comes back that may have been said.
func TestPromise5AtEachByte(t *testing.T) {
	r := rand.New(rand.NewSource(105))
	whole, less := 0, 0
	for _, c := range []millCall{
		{kind: callSet, name: "x", num: 77}, {kind: callSet, name: "y", num: 77}, {kind: callSet, name: "w", num: 77}, {kind: callDefine, name: "new"}, {kind: callDefine, name: "new", body: "s + t"}, {kind: callRemove, name: "u"}, {kind: callTick, reg: tickReg},
	} {
		m := busyNode(t)
		steps := 0
		for fuse := range 80 {
			from := copyOfMill(m)
			from.Disk.Fuse = fuse
			a := c.do(from)
			then := back(t, r, a.m)
			after := a
			if a.code == impl.MillDown {
				steps++
				after = c.do(m)
			}
			switch known(then) {
			case known(after.m):
				whole++
			case known(m):
				less++
				if a.code == impl.MillDone {
					t.Fatalf("%v with fuse %d: %s came back", c, fuse, known(then))
				}
			default:
				t.Fatalf("%v with fuse %d: %s came back", c, fuse, known(then))
			}
			for i, cell := range m.Cells[:min(5, len(then.Cells))] {
				if then.Cells[i].Ver < cell.Ver || a.code == impl.MillDone && then.Cells[i].Ver < a.m.Cells[i].Ver {
					t.Fatalf("%v with fuse %d: %s came back", c, fuse, millText(then))
				}
			}
		}
		if steps < 6 {
			t.Errorf("%v falls %d times", c, steps)
		}
	}
	if whole < 100 || less < 30 {
		t.Fatal(whole, less)
	}
	// what can't be answered leaves nothing behind
	for _, name := range []string{"X", "", "if", "a-b"} {
		m := busyNode(t)
		for _, c := range []millCall{{kind: callDefine, name: name}, {kind: callRemove, name: name}, {kind: callSet, name: name, num: 1}} {
			if a := c.do(m); a.code != impl.MillBad || known(back(t, r, m)) != known(m) {
				t.Errorf("%v: %v", c, a)
			}
		}
	}
}

// isDouble holds that a word that was taken changes nothing when it comes again.
func isDouble(t *testing.T, m impl.Mill, s impl.Say) {
	t.Helper()
	if a := takeAt(m, s); !sameMill(a.m, m) || len(a.says) > 0 || a.code != impl.MillDone && a.code != impl.MillNone {
		t.Fatalf("%v once more at %s: %v", s, millText(m), a)
	}
}

func TestPromise8AValueThatComesTwice(t *testing.T) {
	r := rand.New(rand.NewSource(8))
	doubled, shown := 0, 0
	for range 150 {
		var came []impl.Say
		playNode(r, 60, func(_ impl.Mill, c millCall, a answer) {
			if a.code == impl.MillBad {
				return
			}
			if a.m.Disk.Down || c.kind == callDefine || c.kind == callRise {
				// a new cell has not heard what came ahead of it, and one that came back has forgotten it
				came = nil
				return
			}
			if c.kind == callTake && c.say.Kind == impl.SayTell {
				came = append(came, c.say)
				shown += oneIf(len(a.says) > 0)
			}
			for _, s := range came {
				doubled++
				isDouble(t, a.m, s)
				s.From = (s.From + 1 + oneIf((s.From+1)%5 == s.To)) % 5
				isDouble(t, a.m, s)
			}
		})
	}
	for range 1500 {
		m := anyMill(r)
		s := randomTell(r, m, r.Intn(8))
		isDouble(t, takeAt(m, s).m, s)
	}
	if doubled < 5000 || shown < 100 {
		t.Fatal(doubled, shown)
	}
}

func TestPromise8AtTheEdges(t *testing.T) {
	m := wishedOf(t, "a = far", "b = far + p", "c = a + b", "x")
	for n := range 9 {
		s := tellOf("far", n, fmt.Sprintf("far:%d", n+1))
		// another value under the same version, or an older one, changes nothing either
		m, _ = takes(t, m, s, impl.MillDone)
		isDouble(t, m, s)
		isDouble(t, m, tellOf("far", n+100, fmt.Sprintf("far:%d", n+1)))
		isDouble(t, m, tellOf("far", n, "far:1"))
		p := tellOf("p", n, fmt.Sprintf("far:%d p:%d", n+1, n+1))
		m, _ = takes(t, m, p, impl.MillDone)
		isDouble(t, m, p)
		isDouble(t, m, s)
	}
	isDouble(t, m, tellOf("x", 1, "x:1"))
	isDouble(t, m, tellOf("nobody", 1, "x:1"))
	isDouble(t, m, gone(2, 1, "far"))
}

// history is what sources said under which versions.
type history map[string]map[int]int

func (h history) note(m impl.Mill) {
	for _, c := range m.Cells {
		if c.Body == "" && c.Has {
			if h[c.Name] == nil {
				h[c.Name] = map[int]int{}
			}
			h[c.Name][c.Out.Stamp[0].Ver] = c.Out.Val
		}
	}
}

// meaning is what a signal means at versions of its sources, as far as a node can know.
func (h history) meaning(t *testing.T, m impl.Mill, name string, v versions) int {
	t.Helper()
	c, there := cellOf(m, name)
	if !there {
		needs := versions{}
		for _, src := range needsOf(m, name) {
			needs[src] = v[src]
		}
		return farValue(name, needs)
	}
	if c.Body == "" {
		val, ok := h[name][v[name]]
		if !ok {
			t.Fatalf("%s has not said version %d", name, v[name])
		}
		return val
	}
	var b []impl.Bind
	for _, in := range c.Ins {
		b = append(b, impl.Bind{Name: in, Val: h.meaning(t, m, in, v)})
	}
	tree, _ := impl.TreeRead(c.Body)
	val, _, _ := impl.MeanOf(tree, b)
	return val
}

// oneTime holds that what signals show together is what they mean at one version of each source.
func oneTime(t *testing.T, m impl.Mill, names []string, mean func(name string, v versions) int) bool {
	t.Helper()
	vals, s, ok := impl.MillReads(m, names)
	if !ok {
		return false
	}
	all := versions{}
	for i, name := range names {
		it, ok := impl.MillRead(m, name)
		if !ok || it.Val != vals[i] || mean(name, versionsOf(s)) != vals[i] {
			t.Fatalf("%q of %s: %v at %v", names, millText(m), vals, s)
		}
		for _, mark := range it.Stamp {
			if impl.StampGet(s, mark.Src) != mark.Ver {
				t.Fatalf("%q of %s: %v at %v", names, millText(m), vals, s)
			}
			all[mark.Src] = mark.Ver
		}
	}
	if !sameMarks(all.marks(), s) {
		t.Fatalf("%q of %s: at %v", names, millText(m), s)
	}
	return true
}

func TestPromise10SignalsReadTogetherAreOfOneTime(t *testing.T) {
	r := rand.New(rand.NewSource(10))
	read := [2]int{}
	for range 200 {
		h := history{}
		playNode(r, 60, func(_ impl.Mill, _ millCall, a answer) {
			m := a.m
			h.note(m)
			var shows []string
			for _, c := range m.Cells {
				if c.Has {
					shows = append(shows, c.Name)
				}
			}
			for range 3 * oneIf(len(shows) > 0) {
				names := someOf(r, shows, len(shows))
				read[oneIf(oneTime(t, m, names, func(name string, v versions) int { return h.meaning(t, m, name, v) }))]++
			}
		})
	}
	if read[0] < 300 || read[1] < 3000 {
		t.Fatal(read)
	}
}

// What is not of one time is not read together, in whatever order it is asked for, nor what shows nothing.
func TestPromise10WhatIsNotOfOneTime(t *testing.T) {
	r := rand.New(rand.NewSource(110))
	apart := 0
	for range 1500 {
		m := anyMill(r)
		for i, a := range m.Cells {
			for _, b := range m.Cells[:i] {
				agree := a.Has && b.Has && modelAgree(a.Out.Stamp, b.Out.Stamp)
				if _, fits := modelJoin(a.Out.Stamp, b.Out.Stamp); !fits {
					agree = false
				}
				apart += oneIf(a.Has && b.Has && !agree)
				for _, names := range [][]string{{a.Name, b.Name}, {b.Name, a.Name}, {a.Name, b.Name, a.Name}} {
					if _, _, ok := impl.MillReads(m, names); ok != agree {
						t.Fatalf("%q of %s: %v", names, millText(m), ok)
					}
				}
			}
		}
	}
	if apart < 200 {
		t.Fatal(apart)
	}
	m := busyNode(t)
	for _, names := range [][]string{{"w"}, {"x", "w"}, {"far"}, {"x", "old"}, slices.Repeat([]string{"x"}, 17)} {
		if _, _, ok := impl.MillReads(m, names); ok {
			t.Errorf("%q", names)
		}
	}
}

func TestPromise53WishesEnd(t *testing.T) {
	r := rand.New(rand.NewSource(53))
	wished := 0
	for n := range 1200 {
		m := anyMill(r)
		if n%3 == 0 {
			m = playNode(r, 40, func(impl.Mill, millCall, answer) {})
		}
		if m.Disk.Down {
			continue
		}
		m.Disk.Fuse = []int{-1, 400}[n%2]
		wished += oneIf(len(m.Subs) > 0)
		for tick := 1; tick <= impl.MillTicks; tick++ {
			var left []impl.Sub
			for _, s := range m.Subs {
				if s.Left > 1 {
					left = append(left, impl.Sub{Name: s.Name, Peer: s.Peer, Left: s.Left - 1})
				}
			}
			a := tickAt(m, randomHomes(r))
			if a.code != impl.MillDone || !slices.Equal(a.m.Subs, left) {
				t.Fatalf("%s: %v", millText(m), a)
			}
			m = a.m
		}
		if len(m.Subs) > 0 {
			t.Fatalf("%s", millText(m))
		}
		for _, s := range tickAt(m, impl.Reg{}).says {
			t.Fatalf("%s says %v", millText(m), s)
		}
	}
	if wished < 300 {
		t.Fatal(wished)
	}
}

// A wish lasts as many ticks as were told when it came, and each asking makes it last so long again; one that is removed with its signal is no more at once.
func TestPromise53AtTheEdges(t *testing.T) {
	for _, m := range []impl.Mill{busyNode(t), fullNode(t), openedOn(t, define("x", ""), value("x", 5), lend("x", 1<<40)), openedOn(t, behind([]impl.Rec{define("x", "")}, slices.Repeat([]impl.Rec{value("x", 5)}, 199)...)...)} {
		name := m.Cells[0].Name
		for ahead := range 6 {
			then, _ := takes(t, m, ask(2, 1, name), impl.MillDone)
			for range ahead {
				then, _ = ticks(t, then, tickReg, impl.MillDone)
				then, _ = takes(t, then, ask(2, 1, name), impl.MillDone)
			}
			for tick := 1; tick <= 4; tick++ {
				then, _ = ticks(t, then, tickReg, impl.MillDone)
				if has := slices.ContainsFunc(then.Subs, func(s impl.Sub) bool { return s.Name == name && s.Peer == 2 }); has != (tick < 3) {
					t.Errorf("behind %d ticks: %v", tick, then.Subs)
				}
			}
			if len(then.Subs) > 0 {
				t.Error(then.Subs)
			}
		}
	}
	// a register that may not be is no tick
	m := busyNode(t)
	for range 5 {
		if a := tickAt(m, regOf("x; x", "")); a.code != impl.MillBad {
			t.Error(a)
		}
	}
}

func TestPromise54ANodeThatComesBack(t *testing.T) {
	r := rand.New(rand.NewSource(54))
	said, shown := 0, 0
	for n := range 900 {
		m := anyMill(r)
		if n%3 == 0 {
			m = playNode(r, 40, func(impl.Mill, millCall, answer) {})
		}
		recs, _ := impl.LogRead(m.Disk.Safe)
		then := back(t, r, m)
		cells, gone, ok := impl.MillBook(recs)
		if !ok || !sameMill(then, impl.Mill{Home: m.Home, Disk: then.Disk, Cells: cells, Gone: gone}) || string(then.Disk.Safe) != joined(recs) {
			t.Fatalf("%s came back as %s", millText(m), millText(then))
		}
		for _, c := range then.Cells {
			if _, ok := impl.MillRead(then, c.Name); ok || c.Said || slices.ContainsFunc(c.Wins, func(w []impl.Item) bool { return len(w) > 0 }) {
				t.Fatalf("%s came back as %s", millText(m), millText(then))
			}
			if a := takeAt(then, ask((m.Home+1)%5, m.Home, c.Name)); len(a.says) > 0 {
				t.Fatalf("%s says %v", millText(then), a.says)
			}
		}
		shown += oneIf(shownText(m) != "")
		// said anew, it shows what it was set to, under a version that none of its sources had
		a := tickAt(then, impl.Reg{})
		for i, c := range a.m.Cells {
			was := then.Cells[i]
			if c.Body != "" {
				continue
			}
			if c.Has != was.Set || c.Has && (c.Out.Val != was.Val || c.Out.Stamp[0].Ver <= was.Lent || c.Ver != was.Lent+1) {
				t.Fatalf("%s was said as %s", millText(then), millText(a.m))
			}
			said += oneIf(c.Has)
		}
	}
	if said < 500 || shown < 400 {
		t.Fatal(said, shown)
	}
}

func TestPromise54AtTheEdges(t *testing.T) {
	for _, fuse := range []int{-1, 0, 400} {
		m := impl.Mill{Home: 1, Disk: lying(string(busyNode(t).Disk.Safe)).disk()}
		then := rises(t, m, fuse, impl.MillDone)
		if shownText(then) != "" || len(then.Subs) > 0 || len(then.Cells) != 6 {
			t.Error(millText(then))
		}
		readsAll(t, then, []string{"x"}, false)
	}
	// what comes from elsewhere comes anew, too
	m := back(t, rand.New(rand.NewSource(1)), busyNode(t))
	m, _ = sets(t, m, "x", 6, impl.MillDone)
	if shownText(m) != "x 6 x:9" {
		t.Error(shownText(m))
	}
	m, _ = takes(t, m, tellOf("far", 1, "far:1"), impl.MillDone)
	if shownText(m) != "x 6 x:9; s 7 far:1 x:9; t 14 far:1 x:9" {
		t.Error(shownText(m))
	}
	rises(t, impl.Mill{Home: 1, Disk: lying(joined([]impl.Rec{value("x", 1)})).disk()}, -1, impl.MillBad)
}

func TestPromise56EveryBeginningOfABook(t *testing.T) {
	r := rand.New(rand.NewSource(56))
	removed := 0
	for range 400 {
		l := randomBook(r, 5+r.Intn(50))
		noMore := map[string]bool{}
		for end := range len(l) + 1 {
			cells, gone, ok := impl.MillBook(l[:end])
			if !ok {
				t.Fatalf("%v is a book, %v none", l, l[:end])
			}
			for _, c := range cells {
				if noMore[c.Name] || slices.Contains(gone, c.Name) {
					t.Fatalf("%v: %q comes back", l[:end], c.Name)
				}
			}
			for _, name := range gone {
				noMore[name] = true
			}
			if !slices.Equal(gone, slices.Sorted(maps.Keys(noMore))) {
				t.Fatalf("%v: %q, not %v", l[:end], gone, noMore)
			}
		}
		removed += len(noMore)
		for name := range noMore {
			for _, again := range []impl.Rec{define(name, ""), define(name, "other"), value(name, 1), lend(name, 1<<40), remove(name)} {
				at := len(l)
				for len(recsLike(l[:at], impl.RecRemove, name)) > 0 {
					if _, _, ok := impl.MillBook(slices.Insert(slices.Clone(l), at, again)); ok {
						t.Fatalf("%v with %v at %d", l, again, at)
					}
					at--
				}
			}
		}
	}
	if removed < 400 {
		t.Fatal(removed)
	}
}

// What is no book is none with more behind it; and of a log that is cut anywhere a node opens on what is whole.
func TestPromise56WhatIsNoBook(t *testing.T) {
	r := rand.New(rand.NewSource(156))
	none := 0
	for range 1500 {
		l := append(randomBook(r, r.Intn(20)), randomRecord(r, nil))
		if _, _, ok := impl.MillBook(l); ok {
			continue
		}
		none++
		for range 5 {
			l = append(l, randomRecord(r, l))
			if cells, gone, ok := impl.MillBook(l); ok || len(cells)+len(gone) > 0 {
				t.Fatalf("%v", l)
			}
		}
	}
	if none < 200 {
		t.Fatal(none)
	}
	for range 20 {
		all := joined(randomBook(r, 30))
		for end := range len(all) + 1 {
			if _, code := impl.MillOpen(0, shelf{safe: all[:end], fuse: -1}.disk()); code != impl.MillDone {
				t.Fatalf("%q: %d", all[:end], code)
			}
		}
	}
	for _, text := range []string{"x", "x y", "if"} {
		var l []impl.Rec
		for _, name := range strings.Fields(text) {
			l = append(l, remove(name))
		}
		if _, _, ok := impl.MillBook(l); ok {
			t.Error(l)
		}
	}
}
