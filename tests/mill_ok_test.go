package tests

import (
	"math/rand"
	"slices"
	"strings"
	"testing"

	"loop.example/headrace/impl"
)

// opensNode holds MillOpen against the model and the code that is told.
func opensNode(t *testing.T, home int, s shelf, want int) impl.Mill {
	t.Helper()
	m, code := impl.MillOpen(home, s.disk())
	wantMill, wantCode := modelOpenNode(home, s.disk())
	if code != want || wantCode != want || !sameMill(m, wantMill) {
		t.Errorf("%d on %v: %s %d, not %s %d (%d)", home, s, millText(m), code, millText(wantMill), wantCode, want)
	}
	if code == impl.MillBad && !sameMill(m, impl.Mill{}) || code == impl.MillDone && len(m.Disk.Soft) == 0 && !impl.MillOk(m) {
		t.Errorf("%d on %v: %s %d", home, s, millText(m), code)
	}
	return m
}

// openedOn is a node on a log, at home at 1.
func openedOn(t *testing.T, l ...impl.Rec) impl.Mill {
	t.Helper()
	return opensNode(t, 1, shelf{safe: joined(l), fuse: -1}, impl.MillDone)
}

func TestHomesOfNodes(t *testing.T) {
	for _, home := range []int{least, -2, -1, 0, 1, 2, 3, 4, 5, 6, 9, 1 << 32, most} {
		code := impl.MillBad
		if home >= 0 && home <= 4 {
			code = impl.MillDone
		}
		for _, s := range []shelf{{fuse: -1}, {fuse: 0}, {safe: joined(someBook()), fuse: 7}} {
			if m := opensNode(t, home, s, code); code == impl.MillDone && (m.Home != home || shelfOf(m.Disk) != s) {
				t.Errorf("%d: %s", home, millText(m))
			}
		}
		opensNode(t, home, lying(joined(someBook())), [2]int{impl.MillBad, impl.MillDown}[oneIf(code == impl.MillDone)])
	}
}

func TestNodesAreOpened(t *testing.T) {
	m := openedOn(t, someBook()...)
	x := impl.Cell{Name: "x", Val: 5, Set: true, Lent: 8, Ver: 8}
	s := impl.Cell{Name: "s", Body: "x + far", Ins: []string{"far", "x"}, Wins: make([][]impl.Item, 2)}
	if !sameMill(m, impl.Mill{Home: 1, Disk: shelf{safe: joined(someBook()), fuse: -1}.disk(), Cells: []impl.Cell{x, {Name: "y"}, s}, Gone: []string{"z"}}) {
		t.Error(millText(m))
	}
	all := joined(someBook())
	for end := range len(all) + 1 {
		recs, size := impl.LogRead([]byte(all[:end]))
		for _, parts := range []int{0, size, end} {
			for _, fuse := range []int{-1, 0, 1, 400} {
				from := shelf{safe: all[:parts], soft: all[parts:end], fuse: fuse}
				switch {
				case size == end:
					if m := opensNode(t, 3, from, impl.MillDone); shelfOf(m.Disk) != from {
						t.Errorf("%v: %s", from, millText(m))
					}
				case fuse == 0:
					if m := opensNode(t, 3, from, impl.MillDown); !sameMill(m, impl.Mill{Home: 3, Disk: lying(all[:end]).disk()}) {
						t.Errorf("%v: %s", from, millText(m))
					}
				default:
					cells, _, _ := modelBook(recs)
					if m := opensNode(t, 3, from, impl.MillDone); shelfOf(m.Disk) != (shelf{safe: all[:size], fuse: max(-1, fuse-1)}) || !sameCells(m.Cells, cells) {
						t.Errorf("%v: %s", from, millText(m))
					}
				}
			}
		}
	}
}

func TestNodesOnOtherBytes(t *testing.T) {
	all := joined(someBook())
	for _, behind := range []string{"\x00", "\xff\xff", "\x03\x01x", long(300)} {
		m := opensNode(t, 0, shelf{safe: all + behind, fuse: -1}, impl.MillDone)
		if string(m.Disk.Safe) != all || len(m.Cells) != 3 {
			t.Error(millText(m))
		}
		if m := opensNode(t, 0, shelf{safe: behind, fuse: 1}, impl.MillDone); !sameMill(m, impl.Mill{}) {
			t.Error(millText(m))
		}
		opensNode(t, 0, shelf{safe: all, soft: behind, fuse: 0}, impl.MillDown)
	}
	// of more records than a log has the others are cut away
	many := []impl.Rec{define("x", "")}
	for n := range 205 {
		many = append(many, value("x", n))
	}
	if m := opensNode(t, 0, shelf{safe: joined(many), fuse: -1}, impl.MillDone); m.Cells[0].Val != 198 || len(m.Disk.Safe) != len(joined(many[:200])) {
		t.Error(millText(m))
	}
	// and so is what would tell of no cells
	many[200] = remove("nope")
	opensNode(t, 0, shelf{safe: joined(many), fuse: -1}, impl.MillDone)
	many[199] = remove("nope")
	opensNode(t, 0, shelf{safe: joined(many), fuse: -1}, impl.MillBad)
}

func TestNodesOnDisksThatMayNotBe(t *testing.T) {
	for _, s := range noDisks {
		for _, home := range []int{-1, 0, 4, 5} {
			opensNode(t, home, s, impl.MillBad)
		}
	}
	for _, l := range [][]impl.Rec{{remove("x")}, {define("x", ""), define("x", "")}, behind(someBook(), lend("x", 8)), behind(someBook(), define("z", "")), {define("if", "")}} {
		all := joined(l)
		for _, fuse := range []int{-1, 0, 1, 400} {
			opensNode(t, 0, shelf{safe: all, fuse: fuse}, impl.MillBad)
			opensNode(t, 0, shelf{soft: all, fuse: fuse}, impl.MillBad)
			// a disk that falls is not read
			opensNode(t, 0, shelf{safe: all + "\x00", fuse: fuse}, [2]int{impl.MillBad, impl.MillDown}[oneIf(fuse == 0)])
		}
		opensNode(t, 0, lying(all), impl.MillDown)
		opensNode(t, 5, lying(all), impl.MillBad)
	}
	for _, all := range []string{"", "\x00", long(8000)} {
		if m := opensNode(t, 4, lying(all), impl.MillDown); !sameMill(m, impl.Mill{Home: 4, Disk: lying(all).disk()}) {
			t.Error(millText(m))
		}
	}
}

// busyNode is a node at 1 with a source that was said, one that was set and not said, one that was not set, two signals that show something and one that does not, names that are no more, and wishes.
func busyNode(t *testing.T) impl.Mill {
	t.Helper()
	m := openedOn(t, define("x", ""), define("y", ""), define("w", ""), define("s", "x + far"), define("t", "s * 2"), define("u", "y + w"), define("old", ""), remove("old"), lend("x", 8), value("x", 5), value("y", -3), lend("y", 4), define("b", ""), remove("b"))
	x, s, tt, u := &m.Cells[0], &m.Cells[3], &m.Cells[4], &m.Cells[5]
	x.Ver, x.Said, x.Has, x.Out = 3, true, true, item(5, "x:3")
	m.Cells[1].Has, m.Cells[1].Out = true, item(9, "y:2")
	s.Wins = [][]impl.Item{window("far:1|far:2"), window("x:2|x:3")}
	s.Has, s.Out = true, item(7, "far:2 x:3")
	tt.Wins = [][]impl.Item{window("far:1 x:2|far:2 x:3")}
	tt.Has, tt.Out = true, item(14, "far:2 x:3")
	u.Wins = [][]impl.Item{nil, window("y:2")}
	m.Subs = []impl.Sub{{Name: "s", Peer: 0, Left: 2}, {Name: "s", Peer: 4, Left: 1}, {Name: "u", Peer: 2, Left: 3}, {Name: "x", Peer: 3, Left: 3}}
	return m
}

// isOk holds MillOk against the model and what is told.
func isOk(t *testing.T, m impl.Mill, want bool) {
	t.Helper()
	if impl.MillOk(m) != want || modelMillOk(m) != want {
		t.Errorf("%s: %v, the model %q", millText(m), impl.MillOk(m), wrongIn(m))
	}
	if !want {
		takesNothing(t, m)
	}
}

// takesNothing: at a node that may not be, each call is nothing.
func takesNothing(t *testing.T, m impl.Mill) {
	t.Helper()
	bad := answer{code: impl.MillBad}
	for i, a := range []answer{defineAt(m, "new", ""), defineAt(m, "x", "x"), removeAt(m, "u"), setAt(m, "x", 1), takeAt(m, ask((m.Home+1)%5, m.Home, "x")), takeAt(m, tell((m.Home+1)%5, m.Home, "far", 1, ver("far", 9))), takeAt(m, gone((m.Home+1)%5, m.Home, "x")), tickAt(m, impl.Reg{}), riseAt(m, -1), riseAt(m, 0)} {
		if !a.same(bad) {
			t.Errorf("call %d at %s: %v", i, millText(m), a)
		}
	}
	if then, ok := impl.MillFall(m, 0); ok || !sameMill(then, impl.Mill{}) {
		t.Errorf("%s fell: %s", millText(m), millText(then))
	}
	if it, ok := impl.MillRead(m, "x"); ok || !sameItem(it, impl.Item{}) {
		t.Errorf("%s: %v", millText(m), it)
	}
	for _, names := range [][]string{nil, {"x"}} {
		if vals, s, ok := impl.MillReads(m, names); ok || len(vals)+len(s) > 0 {
			t.Errorf("%s: %v %v", millText(m), vals, s)
		}
	}
}

func defineAt(m impl.Mill, name, body string) answer {
	then, code := impl.MillDefine(m, name, body)
	return answer{m: then, code: code}
}

func removeAt(m impl.Mill, name string) answer {
	then, code := impl.MillRemove(m, name)
	return answer{m: then, code: code}
}

func setAt(m impl.Mill, name string, val int) answer {
	then, says, code := impl.MillSet(m, name, val)
	return answer{then, says, code}
}

func takeAt(m impl.Mill, s impl.Say) answer {
	then, says, code := impl.MillTake(m, s)
	return answer{then, says, code}
}

func tickAt(m impl.Mill, r impl.Reg) answer {
	then, says, code := impl.MillTick(m, r)
	return answer{then, says, code}
}

func riseAt(m impl.Mill, fuse int) answer {
	then, code := impl.MillRise(m, fuse)
	return answer{m: then, code: code}
}

func TestNodesThatMayBe(t *testing.T) {
	isOk(t, busyNode(t), true)
	isOk(t, impl.Mill{}, true)
	for _, home := range []int{0, 4} {
		isOk(t, impl.Mill{Home: home}, true)
		isOk(t, impl.Mill{Home: home, Disk: lying("").disk()}, true)
		isOk(t, impl.Mill{Home: home, Disk: lying(long(8000)).disk(), Cells: []impl.Cell{}, Gone: []string{}, Subs: []impl.Sub{}}, true)
		isOk(t, impl.Mill{Home: home, Disk: lying(joined([]impl.Rec{remove("x")})).disk()}, true)
	}
	for _, fuse := range []int{-1, 0, 1, 399, 400} {
		m := busyNode(t)
		m.Disk.Fuse = fuse
		isOk(t, m, true)
	}
	for _, l := range [][]impl.Rec{nil, someBook(), {define("s", "a + b + c + d")}, {define("x", ""), lend("x", 1<<40)}} {
		isOk(t, openedOn(t, l...), true)
	}
	for why, change := range map[string]func(m *impl.Mill){
		"a version of 0":                      func(m *impl.Mill) { m.Cells[1].Ver, m.Cells[1].Has, m.Cells[1].Out = 0, false, impl.Item{} },
		"a version of just what is lent":      func(m *impl.Mill) { m.Cells[0].Ver, m.Cells[0].Out.Stamp[0].Ver = 8, 8 },
		"a version that is lent, unsaid":      func(m *impl.Mill) { m.Cells[0].Ver, m.Cells[0].Said = 8, false },
		"shows its first version":             func(m *impl.Mill) { m.Cells[1].Out = item(1, "y:1") },
		"shows its last version":              func(m *impl.Mill) { m.Cells[1].Out = item(1, "y:4") },
		"shows its value unsaid":              func(m *impl.Mill) { m.Cells[0].Said = false },
		"shows another value unsaid":          func(m *impl.Mill) { m.Cells[0].Said, m.Cells[0].Out.Val = false, 6 },
		"shows nothing though versions are":   func(m *impl.Mill) { m.Cells[1].Has, m.Cells[1].Out = false, impl.Item{} },
		"no windows' items":                   func(m *impl.Mill) { m.Cells[3].Wins = [][]impl.Item{nil, {}} },
		"full windows":                        func(m *impl.Mill) { m.Cells[3].Wins[0] = window("q:1|q:2|q:3|q:4") },
		"windows that do not agree":           func(m *impl.Mill) { m.Cells[3].Wins = windows("far:1 x:9", "x:1") },
		"shows what no window has":            func(m *impl.Mill) { m.Cells[3].Out = item(0, "never:1") },
		"shows a great stamp":                 func(m *impl.Mill) { m.Cells[3].Out.Stamp = wideMarks(12) },
		"a reckoned one that shows nothing":   func(m *impl.Mill) { m.Cells[3].Has, m.Cells[3].Out = false, impl.Item{} },
		"no wishes":                           func(m *impl.Mill) { m.Subs = nil },
		"a wish of each other node":           func(m *impl.Mill) { m.Subs = subs("s 0 1, s 2 3, s 3 2, s 4 1") },
		"no lists where they may be empty":    func(m *impl.Mill) { m.Cells[0].Ins, m.Cells[0].Wins = []string{}, [][]impl.Item{} },
		"a name that is a beginning of other": func(m *impl.Mill) { m.Subs = subs("s 4 1, t 0 1, u 0 1, w 0 1") },
	} {
		m := busyNode(t)
		change(&m)
		if !impl.MillOk(m) || !modelMillOk(m) {
			t.Errorf("%s: %s, the model %q", why, millText(m), wrongIn(m))
		}
	}
	isOk(t, fullNode(t), true)
}

// fullNode has as many cells and wishes as may be.
func fullNode(t *testing.T) impl.Mill {
	t.Helper()
	var l []impl.Rec
	for _, name := range numbered("n", 16) {
		l = append(l, define(name, ""))
	}
	m := openedOn(t, l...)
	for _, c := range m.Cells {
		for _, peer := range []int{0, 2, 3, 4} {
			m.Subs = append(m.Subs, impl.Sub{Name: c.Name, Peer: peer, Left: 3})
		}
	}
	return m
}

// subs are wishes by their words: name, peer and what is left, with `, ` between two.
func subs(text string) []impl.Sub {
	var l []impl.Sub
	for part := range strings.SplitSeq(text, ", ") {
		words := strings.Fields(part)
		l = append(l, impl.Sub{Name: words[0], Peer: modelNumber(words[1]), Left: modelNumber(words[2])})
	}
	return l
}

// breaks holds that a node of which one thing alone is another way may not be; why is what the model finds wrong with it.
func breaks(t *testing.T, why string, change func(m *impl.Mill)) {
	t.Helper()
	m := busyNode(t)
	change(&m)
	if wrong := slices.Compact(slices.Sorted(slices.Values(wrongIn(m)))); !slices.Equal(wrong, []string{why}) {
		t.Errorf("%s breaks %q, not %q alone", millText(m), wrong, why)
	}
	isOk(t, m, false)
}

func TestNodesThatBreakOneCondition(t *testing.T) {
	for _, home := range []int{-1, 5, least, most, 1 << 32} {
		breaks(t, "home", func(m *impl.Mill) { m.Home = home })
	}
	for _, fuse := range []int{-2, 401, least, most} {
		breaks(t, "disk", func(m *impl.Mill) { m.Disk.Fuse = fuse })
	}
	breaks(t, "disk", func(m *impl.Mill) { *m = impl.Mill{Disk: impl.Disk{Down: true}} })
	breaks(t, "disk", func(m *impl.Mill) { *m = impl.Mill{Disk: impl.Disk{Fuse: -1, Down: true, Soft: []byte{1}}} })
	down := func(change func(m *impl.Mill)) func(m *impl.Mill) {
		return func(m *impl.Mill) {
			busy := *m
			*m = impl.Mill{Home: 1, Disk: lying(string(m.Disk.Safe)).disk()}
			change(m)
			if len(m.Cells) > 0 {
				m.Cells = busy.Cells[:1]
			}
		}
	}
	breaks(t, "cells of one that is down", down(func(m *impl.Mill) { m.Cells = make([]impl.Cell, 1) }))
	breaks(t, "gone of one that is down", down(func(m *impl.Mill) { m.Gone = []string{"b", "old"} }))
	breaks(t, "subs of one that is down", down(func(m *impl.Mill) { m.Subs = subs("x 3 3") }))
	breaks(t, "soft", func(m *impl.Mill) { m.Disk.Soft = []byte(joined([]impl.Rec{value("x", 5)})) })
	breaks(t, "soft", func(m *impl.Mill) { m.Disk.Soft = []byte{0} })
	breaks(t, "log", func(m *impl.Mill) { m.Disk.Safe = append(m.Disk.Safe, 0) })
	breaks(t, "log", func(m *impl.Mill) { m.Disk.Safe = append(m.Disk.Safe, joined([]impl.Rec{define("n", "")})[:5]...) })
	breaks(t, "log", func(m *impl.Mill) {
		m.Disk.Safe = []byte(joined(behind(slices.Repeat([]impl.Rec{define("x", "")}, 1), slices.Repeat([]impl.Rec{value("x", 7)}, 200)...)))
		m.Gone, m.Subs, m.Cells = nil, nil, []impl.Cell{{Name: "x", Val: 7, Set: true}}
	})
	breaks(t, "book", func(m *impl.Mill) {
		*m = impl.Mill{Home: 1, Disk: shelf{safe: joined([]impl.Rec{remove("x")}), fuse: -1}.disk()}
	})
	for _, gone := range [][]string{nil, {"b"}, {"old"}, {"old", "b"}, {"b", "old", "z"}, {"a", "old"}, {"b", "old", "old"}} {
		breaks(t, "gone", func(m *impl.Mill) { m.Gone = gone })
	}
	breaks(t, "cells", func(m *impl.Mill) { m.Cells = append(m.Cells, impl.Cell{Name: "more"}) })
	breaks(t, "cells", func(m *impl.Mill) { m.Cells, m.Subs = m.Cells[:5], nil })
	breaks(t, "cells", func(m *impl.Mill) { m.Cells, m.Subs = nil, nil })
}

func TestCellsThatMayNotBe(t *testing.T) {
	const x, y, w, s, u = 0, 1, 2, 3, 5
	cell := func(why string, at int, change func(c *impl.Cell)) {
		t.Helper()
		breaks(t, why, func(m *impl.Mill) {
			if why == "name" {
				m.Subs = nil
			}
			change(&m.Cells[at])
		})
	}
	for _, at := range []int{w, s, u} {
		for _, name := range []string{"", "other", "X", "x"} {
			cell("name", at, func(c *impl.Cell) { c.Name = name })
		}
		for _, body := range []string{"x", "x+far", " ", "far + x", "7"} {
			cell("body", at, func(c *impl.Cell) { c.Body = body })
		}
		for _, val := range []int{1, -1, least} {
			cell("val", at, func(c *impl.Cell) { c.Val = val })
		}
		cell("set", at, func(c *impl.Cell) { c.Set = !c.Set })
		for _, lent := range []int{1, -1, 8, 1 << 40} {
			cell("lent", at, func(c *impl.Cell) { c.Lent = lent })
		}
		for _, ver := range []int{1, -1, 9, most, least} {
			cell("ver", at, func(c *impl.Cell) { c.Ver = ver })
		}
		cell("said", at, func(c *impl.Cell) { c.Said = true })
		cell("out of one that shows nothing", at, func(c *impl.Cell) { c.Has, c.Out = false, item(1, "") })
		cell("out of one that shows nothing", at, func(c *impl.Cell) { c.Has, c.Out = false, item(0, c.Name+":1") })
		cell("stamp", at, func(c *impl.Cell) { c.Has, c.Out = true, item(7, "") })
		cell("stamp", at, func(c *impl.Cell) { c.Has, c.Out = true, item(7, "x:0") })
		for _, bad := range noStamps {
			cell("stamp", at, func(c *impl.Cell) { c.Has, c.Out.Stamp = true, bad })
		}
	}
	cell("body", s, func(c *impl.Cell) { c.Body = "" })
	cell("val", y, func(c *impl.Cell) { c.Val = -4 })
	cell("lent", x, func(c *impl.Cell) { c.Lent = 7 })
	cell("lent", x, func(c *impl.Cell) { c.Lent = 16 })
	cell("set", y, func(c *impl.Cell) { c.Set = false })
	for _, ver := range []int{5, 8, -1, least, most} {
		cell("ver", y, func(c *impl.Cell) { c.Ver, c.Has, c.Out = ver, false, impl.Item{} })
	}
	for _, ins := range [][]string{nil, {"far"}, {"x"}, {"x", "far"}, {"far", "y"}, {"far", "x", "y"}, {"far", "far"}} {
		cell("ins", s, func(c *impl.Cell) { c.Ins = ins })
	}
	for _, wins := range [][][]impl.Item{nil, windows(""), windows("far:1"), windows("", "", ""), windows("far:1|far:2", "x:2", "x:1")} {
		cell("wins", s, func(c *impl.Cell) { c.Wins = wins })
	}
	for _, bad := range []string{"far:0", "|", "far:1|far:1", "far:2|far:1", "far:1|x:2", "a:1|a:2|a:3|a:4|a:5", "far:1099511627777", "Far:1"} {
		cell("window", s, func(c *impl.Cell) { c.Wins[0] = window(bad) })
		cell("window", s, func(c *impl.Cell) { c.Wins[1] = window(bad) })
	}
	cell("ins", w, func(c *impl.Cell) { c.Ins = []string{"x"} })
	cell("wins", w, func(c *impl.Cell) { c.Wins = windows("") })
	cell("wins", w, func(c *impl.Cell) { c.Wins = windows("x:1") })
	for _, stamp := range []string{"", "y:0", "y:5", "x:2", "y:2 z:1", "x:1 y:2", "y:1099511627776", "y:-1"} {
		cell("stamp", y, func(c *impl.Cell) { c.Out = item(9, stamp) })
	}
	for _, change := range []func(c *impl.Cell){
		func(c *impl.Cell) { c.Out.Val = 6 },
		func(c *impl.Cell) { c.Out.Stamp[0].Ver = 2 },
		func(c *impl.Cell) { c.Ver = 4 },
		func(c *impl.Cell) { c.Has, c.Out = false, impl.Item{} },
		func(c *impl.Cell) { c.Has, c.Out, c.Ver = false, impl.Item{}, 0 },
	} {
		cell("said", x, change)
	}
	cell("said", y, func(c *impl.Cell) { c.Said = true })
	cell("said", y, func(c *impl.Cell) { c.Said, c.Out.Val = true, -3 })
	cell("said", y, func(c *impl.Cell) { c.Said, c.Out.Stamp[0].Ver = true, 4 })
}

// A source that was never set can't have been said, though it may show something.
func TestSourcesThatWereNotSet(t *testing.T) {
	m := openedOn(t, define("x", ""), lend("x", 8))
	m.Cells[0].Has, m.Cells[0].Out = true, item(0, "x:8")
	isOk(t, m, true)
	m.Cells[0].Said = true
	if !slices.Equal(wrongIn(m), []string{"said"}) {
		t.Error(wrongIn(m))
	}
	isOk(t, m, false)
	m = openedOn(t, define("x", ""), lend("x", 8), value("x", 0))
	m.Cells[0].Said, m.Cells[0].Has, m.Cells[0].Out = true, true, item(0, "x:8")
	isOk(t, m, true)
}

func TestWishesThatMayNotBe(t *testing.T) {
	wishes := func(why, text string) {
		t.Helper()
		breaks(t, why, func(m *impl.Mill) { m.Subs = subs(text) })
	}
	wishes("order", "u 2 3, s 0 2")
	wishes("order", "s 4 1, s 0 2")
	wishes("order", "s 0 2, s 0 2")
	wishes("order", "s 0 2, s 0 3")
	wishes("order", "s 0 2, s 4 1, s 0 2")
	wishes("order", "s 0 1, u 0 1, t 0 1")
	for _, name := range []string{"far", "old", "b", "new", "if"} {
		breaks(t, "sub", func(m *impl.Mill) { m.Subs = []impl.Sub{{Name: name, Peer: 0, Left: 1}} })
	}
	breaks(t, "sub", func(m *impl.Mill) { m.Subs = []impl.Sub{{Name: "", Peer: 0, Left: 1}} })
	breaks(t, "sub", func(m *impl.Mill) { m.Subs[2].Name = "t1" })
	for _, peer := range []int{-1, 5, 9, least, most} {
		breaks(t, "peer", func(m *impl.Mill) { m.Subs = []impl.Sub{{Name: "s", Peer: peer, Left: 1}} })
	}
	breaks(t, "own peer", func(m *impl.Mill) { m.Subs[0].Peer = 1 })
	for _, left := range []int{0, 4, -1, least, most} {
		for at := range 4 {
			breaks(t, "left", func(m *impl.Mill) { m.Subs[at].Left = left })
		}
	}
	// one more than may be is always one that may not be for another reason, too
	for _, more := range []impl.Sub{{Name: "n15", Peer: 4, Left: 3}, {Name: "n16", Peer: 0, Left: 3}, {Name: "n15", Peer: 5, Left: 3}} {
		m := fullNode(t)
		m.Subs = append(m.Subs, more)
		if wrong := wrongIn(m); !slices.Contains(wrong, "subs") || len(wrong) < 2 {
			t.Error(wrong)
		}
		isOk(t, m, false)
	}
	m := fullNode(t)
	m.Subs = append([]impl.Sub{{Name: "n00", Peer: 1, Left: 3}}, m.Subs...)
	isOk(t, m, false)
}

func TestAnyNodesAgainstModel(t *testing.T) {
	r := rand.New(rand.NewSource(310))
	seen := map[string]int{}
	for range 3000 {
		m := anyMill(r)
		isOk(t, m, true)
		turnMill(r, &m)
		wrong := wrongIn(m)
		for _, why := range slices.Compact(wrong) {
			seen[why]++
		}
		if impl.MillOk(m) != (len(wrong) == 0) {
			t.Fatalf("%s: %v, the model %q", millText(m), impl.MillOk(m), wrong)
		}
	}
	if len(seen) < 20 {
		t.Error(seen)
	}
}

// turnMill makes something of a node another way, which it mostly may not be.
func turnMill(r *rand.Rand, m *impl.Mill) {
	num := []int{-1, 0, 1, 3, 4, 5, 8, 9, most}[r.Intn(9)]
	switch r.Intn(9) {
	case 0:
		m.Home = num
	case 1:
		m.Disk.Fuse = num
	case 2:
		m.Disk.Soft = []byte(long(r.Intn(2)))
	case 3:
		m.Disk.Safe = append(m.Disk.Safe, joined(randomBook(r, 2))...)
	case 4:
		m.Gone = slices.Sorted(slices.Values(append(m.Gone, cellNames[r.Intn(len(cellNames))])))
	}
	if len(m.Cells) > 0 {
		turnCell(r, &m.Cells[r.Intn(len(m.Cells))], num)
	}
	if len(m.Subs) > 0 {
		s := &m.Subs[r.Intn(len(m.Subs))]
		switch r.Intn(6) {
		case 0:
			s.Name = cellNames[r.Intn(len(cellNames))]
		case 1:
			s.Peer = num
		case 2:
			s.Left = num
		}
	}
}

func turnCell(r *rand.Rand, c *impl.Cell, num int) {
	switch r.Intn(18) {
	case 0:
		c.Name = cellNames[r.Intn(len(cellNames))]
	case 1:
		c.Body = smallBody(r, cellNames)
	case 2:
		c.Val = num
	case 3:
		c.Set = !c.Set
	case 4:
		c.Lent = num
	case 5:
		c.Ver = num
	case 6:
		c.Said = !c.Said
	case 7:
		c.Ins = someOf(r, cellNames, 4)
	case 8:
		c.Wins = randomWindows(r, 1+r.Intn(3))
	case 9:
		c.Has = !c.Has
	case 10:
		c.Out.Val = num
	case 11:
		c.Out.Stamp = turnedMarks(r)
	}
}
