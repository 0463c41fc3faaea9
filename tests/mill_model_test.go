package tests

import (
	"cmp"
	"fmt"
	"math/rand"
	"slices"
	"strings"

	"loop.example/headrace/impl"
)

// The model of nodes: what records tell is found by looking back from the end of them; a node is its parts as they are handed out, and what is wrong in them is told by names; what is to be done stands in a list of errands, of which the first is done, and what comes of it is put ahead of the others; codes by asking for all that hold, and then for the first of them. It is made of the layers beneath, which their own tests hold.

func recsLike(l []impl.Rec, kind int, name string) []impl.Rec {
	var like []impl.Rec
	for _, r := range l {
		if r.Kind == kind && r.Name == name {
			like = append(like, r)
		}
	}
	return like
}

// standing are the definitions that were not taken back.
func standing(l []impl.Rec) []impl.Rec {
	var all []impl.Rec
	for _, r := range l {
		if r.Kind == impl.RecDefine && len(recsLike(l, impl.RecRemove, r.Name)) == 0 {
			all = append(all, r)
		}
	}
	return all
}

func bodyIns(body string) []string {
	ins, _ := impl.SigIns(body)
	return ins
}

// recWrong names all that is wrong with a record behind those ahead of it.
func recWrong(ahead []impl.Rec, r impl.Rec) []string {
	if !modelRecOk(r) {
		return []string{"record"}
	}
	var wrong []string
	holds := func(what string, does bool) {
		if does {
			wrong = append(wrong, what)
		}
	}
	cells := standing(ahead)
	at := slices.IndexFunc(cells, func(c impl.Rec) bool { return c.Name == r.Name })
	held := slices.ContainsFunc(cells, func(c impl.Rec) bool { return slices.Contains(bodyIns(c.Text), r.Name) })
	if r.Kind == impl.RecDefine {
		_, ok := impl.SigIns(r.Text)
		holds("name", !modelName(r.Name))
		holds("there", at >= 0)
		holds("no more", len(recsLike(ahead, impl.RecRemove, r.Name)) > 0)
		holds("own input", slices.Contains(bodyIns(r.Text), r.Name))
		holds("input", held)
		holds("text", !ok)
		holds("many", len(cells) >= 16)
		return wrong
	}
	holds("not there", at < 0)
	if r.Kind == impl.RecRemove {
		holds("input", held)
		return wrong
	}
	holds("body", at >= 0 && cells[at].Text != "")
	if r.Kind == impl.RecLend {
		holds("lent", slices.ContainsFunc(recsLike(ahead, impl.RecLend, r.Name), func(l impl.Rec) bool { return l.Num >= r.Num }))
		holds("version", r.Num >= 1<<40+1)
	}
	return wrong
}

func modelBook(l []impl.Rec) ([]impl.Cell, []string, bool) {
	for i, r := range l {
		if len(recWrong(l[:i], r)) > 0 {
			return nil, nil, false
		}
	}
	var cells []impl.Cell
	for _, r := range standing(l) {
		c := impl.Cell{Name: r.Name, Body: r.Text, Ins: bodyIns(r.Text)}
		c.Wins = make([][]impl.Item, len(c.Ins))
		for _, v := range recsLike(l, impl.RecValue, r.Name) {
			c.Val, c.Set = v.Num, true
		}
		for _, v := range recsLike(l, impl.RecLend, r.Name) {
			c.Lent, c.Ver = v.Num, v.Num
		}
		cells = append(cells, c)
	}
	var gone []string
	for _, r := range l {
		if r.Kind == impl.RecRemove {
			gone = append(gone, r.Name)
		}
	}
	slices.Sort(gone)
	return cells, gone, true
}

func modelOpenNode(home int, d impl.Disk) (impl.Mill, int) {
	disk, recs, code := impl.LogOpen(d)
	cells, gone, ok := modelBook(recs)
	switch {
	case home < 0, home > 4, code == impl.DiskBad:
		return impl.Mill{}, impl.MillBad
	case code == impl.DiskDown:
		return impl.Mill{Home: home, Disk: disk}, impl.MillDown
	case !ok:
		return impl.Mill{}, impl.MillBad
	}
	return impl.Mill{Home: home, Disk: disk, Cells: cells, Gone: gone}, impl.MillDone
}

// faults are the names of all that is wrong.
type faults []string

func (f *faults) unless(holds bool, what string) {
	if !holds {
		*f = append(*f, what)
	}
}

// wrongIn names all that is wrong in a node.
func wrongIn(m impl.Mill) []string {
	var f faults
	f.unless(m.Home >= 0 && m.Home < 5, "home")
	f.unless(impl.DiskOk(m.Disk), "disk")
	if m.Disk.Down {
		f.unless(len(m.Cells) == 0, "cells of one that is down")
		f.unless(len(m.Gone) == 0, "gone of one that is down")
		f.unless(len(m.Subs) == 0, "subs of one that is down")
		return f
	}
	recs, size := impl.LogRead(m.Disk.Safe)
	cells, gone, ok := modelBook(recs)
	f.unless(len(m.Disk.Soft) == 0, "soft")
	f.unless(size == len(m.Disk.Safe), "log")
	f.unless(ok, "book")
	f.unless(slices.Equal(gone, m.Gone), "gone")
	f.unless(len(cells) == len(m.Cells), "cells")
	for i, c := range m.Cells[:min(len(cells), len(m.Cells))] {
		f.lookAtCell(c, cells[i])
	}
	f.lookAtSubs(m)
	return f
}

func (f *faults) lookAtCell(c, told impl.Cell) {
	f.unless(c.Name == told.Name, "name")
	f.unless(c.Body == told.Body, "body")
	f.unless(c.Val == told.Val, "val")
	f.unless(c.Set == told.Set, "set")
	f.unless(c.Lent == told.Lent, "lent")
	f.unless(slices.Equal(c.Ins, told.Ins), "ins")
	f.unless(len(c.Wins) == len(told.Ins), "wins")
	for _, w := range c.Wins {
		f.unless(impl.WindowOk(w), "window")
	}
	f.unless(c.Has || c.Out.Val == 0 && len(c.Out.Stamp) == 0, "out of one that shows nothing")
	if told.Body != "" {
		f.unless(c.Ver == 0, "ver")
		f.unless(!c.Said, "said")
		f.unless(!c.Has || len(c.Out.Stamp) > 0 && impl.StampOk(c.Out.Stamp), "stamp")
		return
	}
	f.unless(c.Ver >= 0 && c.Ver <= told.Lent, "ver")
	own := slices.ContainsFunc(c.Out.Stamp, func(m impl.Mark) bool { return m.Src == told.Name && m.Ver > 0 && m.Ver <= c.Ver })
	f.unless(!c.Has || len(c.Out.Stamp) == 1 && own, "stamp")
	now := impl.Item{Val: told.Val, Stamp: []impl.Mark{{Src: told.Name, Ver: c.Ver}}}
	f.unless(!c.Said || c.Ver > 0 && c.Set && c.Has && sameItem(c.Out, now), "said")
}

func (f *faults) lookAtSubs(m impl.Mill) {
	f.unless(len(m.Subs) < 65, "subs")
	for i, s := range m.Subs {
		for _, other := range m.Subs[:i] {
			f.unless(subOrder(other, s) < 0, "order")
		}
		f.unless(slices.ContainsFunc(m.Cells, func(c impl.Cell) bool { return c.Name == s.Name }), "sub")
		f.unless(s.Peer >= 0 && s.Peer < 5, "peer")
		f.unless(s.Peer != m.Home, "own peer")
		f.unless(s.Left >= 1 && s.Left <= 3, "left")
	}
}

func subOrder(a, b impl.Sub) int {
	return cmp.Or(cmp.Compare(a.Name, b.Name), cmp.Compare(a.Peer, b.Peer))
}

func modelMillOk(m impl.Mill) bool { return len(wrongIn(m)) == 0 }

// copyOfMill has lists of its own.
func copyOfMill(m impl.Mill) impl.Mill {
	m.Disk = shelfOf(m.Disk).disk()
	m.Cells, m.Gone, m.Subs = slices.Clone(m.Cells), slices.Clone(m.Gone), slices.Clone(m.Subs)
	for i := range m.Cells {
		c := &m.Cells[i]
		c.Ins, c.Wins, c.Out.Stamp = slices.Clone(c.Ins), slices.Clone(c.Wins), slices.Clone(c.Out.Stamp)
		for j := range c.Wins {
			c.Wins[j] = slices.Clone(c.Wins[j])
			for k := range c.Wins[j] {
				c.Wins[j][k].Stamp = slices.Clone(c.Wins[j][k].Stamp)
			}
		}
	}
	return m
}

func sameCell(a, b impl.Cell) bool {
	return a.Name == b.Name && a.Body == b.Body && a.Val == b.Val && a.Set == b.Set && a.Lent == b.Lent && a.Ver == b.Ver && a.Said == b.Said && slices.Equal(a.Ins, b.Ins) && sameWins(a.Wins, b.Wins) && a.Has == b.Has && sameItem(a.Out, b.Out)
}

func sameCells(a, b []impl.Cell) bool { return slices.EqualFunc(a, b, sameCell) }

func sameMill(a, b impl.Mill) bool {
	return a.Home == b.Home && shelfOf(a.Disk) == shelfOf(b.Disk) && sameCells(a.Cells, b.Cells) && slices.Equal(a.Gone, b.Gone) && slices.Equal(a.Subs, b.Subs)
}

// modelNode is a node, and what it has said.
type modelNode struct {
	impl.Mill
	says []impl.Say
}

// errand is that an item of an input comes to the cell at a place.
type errand struct {
	at   int
	in   string
	item impl.Item
}

func (n *modelNode) place(name string) int {
	return slices.IndexFunc(n.Cells, func(c impl.Cell) bool { return c.Name == name })
}

// errands are those for all cells from a place on that have the name as an input.
func (n *modelNode) errands(from int, name string, it impl.Item) []errand {
	var todo []errand
	for at := from; at < len(n.Cells); at++ {
		if slices.Contains(n.Cells[at].Ins, name) {
			todo = append(todo, errand{at, name, it})
		}
	}
	return todo
}

func (n *modelNode) run(todo []errand) {
	for len(todo) > 0 {
		todo = append(n.do(todo[0]), todo[1:]...)
	}
}

func (n *modelNode) do(e errand) []errand {
	c := &n.Cells[e.at]
	g, show, code := impl.GatherPut(impl.Gather{Ins: c.Ins, Wins: c.Wins, Shown: c.Out.Stamp}, impl.Feed{In: slices.Index(c.Ins, e.in), Item: e.item})
	if code == impl.GatherBad || code == impl.GatherOld {
		return nil
	}
	c.Wins = g.Wins
	if code != impl.GatherShows {
		return nil
	}
	var b []impl.Bind
	for i, in := range c.Ins {
		b = append(b, impl.Bind{Name: in, Val: show.Vals[i]})
	}
	tree, _ := impl.TreeRead(c.Body)
	val, _, _ := impl.MeanOf(tree, b)
	return n.shows(e.at, impl.Item{Val: val, Stamp: show.Stamp})
}

func (n *modelNode) shows(at int, it impl.Item) []errand {
	c := &n.Cells[at]
	c.Has, c.Out = true, it
	for _, s := range n.Subs {
		if s.Name == c.Name {
			n.tells(s.Name, s.Peer)
		}
	}
	return n.errands(at+1, c.Name, it)
}

// tells says what a cell shows, if it shows something.
func (n *modelNode) tells(name string, peer int) {
	if c := n.Cells[n.place(name)]; c.Has {
		n.says = append(n.says, tell(n.Home, peer, name, c.Out.Val, versOfMarks(c.Out.Stamp)...))
	}
}

func (n *modelNode) puts(r impl.Rec) int {
	disk, code := impl.LogPut(n.Disk, r)
	n.Disk = disk
	switch code {
	case impl.DiskFull:
		return impl.MillFull
	case impl.DiskDown:
		*n = modelNode{Mill: impl.Mill{Home: n.Home, Disk: disk}}
		return impl.MillDown
	case impl.DiskDone:
		return impl.MillDone
	}
	panic(fmt.Sprintf("%v is not put", r))
}

// isSaid lets the source at a place be said.
func (n *modelNode) isSaid(at int) int {
	if c := n.Cells[at]; c.Lent == c.Ver {
		if c.Lent+8 > 1<<40 {
			return impl.MillEnd
		}
		if code := n.puts(lend(c.Name, c.Lent+8)); code != impl.MillDone {
			return code
		}
		n.Cells[at].Lent += 8
	}
	c := &n.Cells[at]
	c.Ver++
	c.Said = true
	n.run(n.shows(at, impl.Item{Val: c.Val, Stamp: []impl.Mark{{Src: c.Name, Ver: c.Ver}}}))
	return impl.MillDone
}

// answer is what a call on a node comes to.
type answer struct {
	m    impl.Mill
	says []impl.Say
	code int
}

func (a answer) same(b answer) bool {
	return a.code == b.code && sameSays(a.says, b.says) && sameMill(a.m, b.m)
}

func (a answer) String() string {
	return fmt.Sprintf("%s says %q with code %d", millText(a.m), saysText(a.says), a.code)
}

// saysText is the lines of words, with `; ` between two.
func saysText(says []impl.Say) string {
	var lines []string
	for _, s := range says {
		lines = append(lines, modelLine(s))
	}
	return strings.Join(lines, "; ")
}

func millText(m impl.Mill) string {
	return fmt.Sprintf("{%d, %v, %+v, gone %q, %v}", m.Home, shelfOf(m.Disk), m.Cells, m.Gone, m.Subs)
}

// answerBy is what a call comes to at a node by the codes that hold of it, or else by what it does there.
func answerBy(m impl.Mill, codes []int, does func(n *modelNode) int) answer {
	if len(codes) > 0 {
		if codes[0] == impl.MillBad {
			return answer{code: impl.MillBad}
		}
		return answer{m: m, code: codes[0]}
	}
	n := &modelNode{Mill: copyOfMill(m)}
	code := does(n)
	return answer{n.Mill, n.says, code}
}

// firstCodes are those that hold ahead of all others.
func firstCodes(m impl.Mill, fits bool) []int {
	var codes []int
	if !fits || !modelMillOk(m) {
		codes = append(codes, impl.MillBad)
	}
	if m.Disk.Down {
		codes = append(codes, impl.MillDown)
	}
	return codes
}

func cellOf(m impl.Mill, name string) (impl.Cell, bool) {
	if at := (&modelNode{Mill: m}).place(name); at >= 0 {
		return m.Cells[at], true
	}
	return impl.Cell{}, false
}

func isInput(m impl.Mill, name string) bool {
	return slices.ContainsFunc(m.Cells, func(c impl.Cell) bool { return slices.Contains(c.Ins, name) })
}

func defineCodes(m impl.Mill, name, body string) []int {
	_, ok := impl.SigIns(body)
	codes := firstCodes(m, ok && modelName(name))
	if _, there := cellOf(m, name); there {
		codes = append(codes, impl.MillHas)
	}
	if slices.Contains(m.Gone, name) {
		codes = append(codes, impl.MillUsed)
	}
	if isInput(m, name) || slices.Contains(bodyIns(body), name) {
		codes = append(codes, impl.MillHeld)
	}
	if len(m.Cells) >= 16 {
		codes = append(codes, impl.MillFull)
	}
	return codes
}

func modelDefine(m impl.Mill, name, body string) answer {
	return answerBy(m, defineCodes(m, name, body), func(n *modelNode) int {
		if code := n.puts(define(name, body)); code != impl.MillDone {
			return code
		}
		cells, _, _ := modelBook([]impl.Rec{define(name, body)})
		n.Cells = append(n.Cells, cells...)
		for _, in := range bodyIns(body) {
			if c, ok := cellOf(n.Mill, in); ok && c.Has {
				n.run([]errand{{len(n.Cells) - 1, in, c.Out}})
			}
		}
		return impl.MillDone
	})
}

func removeCodes(m impl.Mill, name string) []int {
	codes := firstCodes(m, modelName(name))
	if _, there := cellOf(m, name); !there {
		codes = append(codes, impl.MillNone)
	}
	if isInput(m, name) {
		codes = append(codes, impl.MillHeld)
	}
	return codes
}

func modelRemove(m impl.Mill, name string) answer {
	return answerBy(m, removeCodes(m, name), func(n *modelNode) int {
		if code := n.puts(remove(name)); code != impl.MillDone {
			return code
		}
		n.Cells = slices.DeleteFunc(n.Cells, func(c impl.Cell) bool { return c.Name == name })
		n.Subs = slices.DeleteFunc(n.Subs, func(s impl.Sub) bool { return s.Name == name })
		n.Gone = slices.Sorted(slices.Values(append(n.Gone, name)))
		return impl.MillDone
	})
}

func setCodes(m impl.Mill, name string) []int {
	codes := firstCodes(m, modelName(name))
	if c, there := cellOf(m, name); !there || c.Body != "" {
		codes = append(codes, impl.MillNone)
	}
	return codes
}

func modelSet(m impl.Mill, name string, val int) answer {
	return answerBy(m, setCodes(m, name), func(n *modelNode) int {
		if code := n.puts(value(name, val)); code != impl.MillDone {
			return code
		}
		c := &n.Cells[n.place(name)]
		c.Val, c.Set, c.Said = val, true, false
		return n.isSaid(n.place(name))
	})
}

func takeCodes(m impl.Mill, s impl.Say) []int {
	codes := firstCodes(m, modelSayOk(s) && s.To == m.Home && s.From < 5)
	if _, there := cellOf(m, s.Name); s.Kind == impl.SayGone || there == (s.Kind == impl.SayTell) {
		codes = append(codes, impl.MillNone)
	}
	return codes
}

func modelTake(m impl.Mill, s impl.Say) answer {
	return answerBy(m, takeCodes(m, s), func(n *modelNode) int {
		if s.Kind == impl.SayTell {
			n.run(n.errands(0, s.Name, impl.Item{Val: s.Val, Stamp: marksOf(s.Stamp)}))
			return impl.MillDone
		}
		sub := impl.Sub{Name: s.Name, Peer: s.From, Left: 3}
		n.Subs = slices.DeleteFunc(n.Subs, func(other impl.Sub) bool { return subOrder(other, sub) == 0 })
		n.Subs = slices.SortedFunc(slices.Values(append(n.Subs, sub)), subOrder)
		n.tells(s.Name, s.From)
		return impl.MillDone
	})
}

func modelTick(m impl.Mill, r impl.Reg) answer {
	return answerBy(m, firstCodes(m, modelRegOk(r)), func(n *modelNode) int {
		for i := range n.Subs {
			n.Subs[i].Left--
		}
		n.Subs = slices.DeleteFunc(n.Subs, func(s impl.Sub) bool { return s.Left == 0 })
		for at, c := range n.Cells {
			if c.Set && !c.Said && n.isSaid(at) == impl.MillDown {
				return impl.MillDown
			}
		}
		for _, s := range n.Subs {
			n.tells(s.Name, s.Peer)
		}
		var asked []string
		for _, c := range n.Cells {
			for _, in := range c.Ins {
				at := slices.Index(sigNames(r), in)
				if at >= 0 && r.Sigs[at].Home != n.Home && !slices.Contains(asked, in) {
					n.says = append(n.says, ask(n.Home, r.Sigs[at].Home, in))
					asked = append(asked, in)
				}
			}
		}
		return impl.MillDone
	})
}

func modelRead(m impl.Mill, name string) (impl.Item, bool) {
	c, there := cellOf(m, name)
	if !modelMillOk(m) || !there || !c.Has {
		return impl.Item{}, false
	}
	return c.Out, true
}

func modelReads(m impl.Mill, names []string) ([]int, []impl.Mark, bool) {
	if len(names) >= 17 || !modelMillOk(m) {
		return nil, nil, false
	}
	var vals []int
	all := versions{}
	for _, name := range names {
		it, ok := modelRead(m, name)
		if !ok {
			return nil, nil, false
		}
		vals = append(vals, it.Val)
		for src, n := range versionsOf(it.Stamp) {
			if has, ok := all[src]; ok && has != n {
				return nil, nil, false
			}
			all[src] = n
		}
	}
	if len(all) >= 13 {
		return nil, nil, false
	}
	return vals, all.marks(), true
}

// Nodes by chance.

var (
	cellNames = []string{"a", "b", "ab", "x", "y", "z1", "abcdefgh", "k9"}
	farNames  = []string{"far", "p", "q2"}
)

// bodyOver leans mostly on what is there, and on what lives elsewhere for good; sometimes on anything.
func bodyOver(r *rand.Rand, there []string) string {
	if r.Intn(5) == 0 {
		return smallBody(r, cellNames)
	}
	return smallBody(r, slices.Concat(there, there, farNames))
}

// smallBody is a body over one to four of these names.
func smallBody(r *rand.Rand, names []string) string {
	some := someOf(r, names, min(4, len(names)))
	for i := range some {
		switch r.Intn(6) {
		case 0:
			some[i] += " * " + fmt.Sprint(2+r.Intn(3))
		case 1:
			some[i] = "max(" + some[i] + ", 3)"
		case 2:
			some[i] = "(let q = " + some[i] + " in q - 1)"
		}
	}
	return strings.Join(some, " + ")
}

// randomRecord is mostly one that may stand behind others.
func randomRecord(r *rand.Rand, ahead []impl.Rec) impl.Rec {
	name := cellNames[r.Intn(len(cellNames))]
	own, there := name, []string(nil)
	for _, c := range standing(ahead) {
		there = append(there, c.Name)
	}
	if len(there) > 0 && r.Intn(4) > 0 {
		own = there[r.Intn(len(there))]
	}
	switch r.Intn(10) {
	case 0, 1:
		return define(name, "")
	case 2, 3, 4:
		return define(name, bodyOver(r, there))
	case 5:
		return remove(own)
	case 6, 7:
		return value(own, edgeNums[r.Intn(len(edgeNums))])
	}
	return lend(own, 1+r.Intn(20))
}

// randomBook are records that tell of signals.
func randomBook(r *rand.Rand, tries int) []impl.Rec {
	var l []impl.Rec
	for range tries {
		if rec := randomRecord(r, l); len(recWrong(l, rec)) == 0 {
			l = append(l, rec)
		}
	}
	return l
}

// versionAt is how a source went on that is at home elsewhere: some are quicker than others.
func versionAt(src string, time int) int {
	return 1 + time/(1+len(src)%3)
}

// needsOf are the sources that go into a signal, as far as a node can know: what lives elsewhere leans on one or two that do so, too, and sometimes on one that is at home here.
func needsOf(m impl.Mill, name string) []string {
	c, there := cellOf(m, name)
	if !there {
		needs := []string{name}
		if at := int(name[0]) % (2 * len(cellNames)); at < len(cellNames) {
			needs = append(needs, cellNames[at])
		}
		return needs
	}
	if c.Body == "" {
		return []string{name}
	}
	var needs []string
	for _, in := range c.Ins {
		needs = append(needs, needsOf(m, in)...)
	}
	return needs
}

// stampAt is the stamp of a signal at a time.
func stampAt(m impl.Mill, name string, time int) []impl.Mark {
	v := versions{}
	for _, src := range needsOf(m, name) {
		v[src] = versionAt(src, time)
		if c, there := cellOf(m, src); there && c.Ver > 0 {
			v[src] = max(1, c.Ver-time%2)
		}
	}
	return v.marks()
}

// anyMill is a node that may be, though most of them no play leaves.
func anyMill(r *rand.Rand) impl.Mill {
	recs := randomBook(r, r.Intn(30))
	m, code := modelOpenNode(r.Intn(5), shelf{safe: joined(recs), fuse: r.Intn(60) - 1}.disk())
	if code != impl.MillDone {
		panic(code)
	}
	if r.Intn(2) == 0 {
		m.Disk.Fuse = -1
	}
	for i := range m.Cells {
		anyShown(r, m, &m.Cells[i])
		for peer := range 5 {
			if peer != m.Home && r.Intn(4) == 0 {
				m.Subs = append(m.Subs, impl.Sub{Name: m.Cells[i].Name, Peer: peer, Left: 1 + r.Intn(3)})
			}
		}
	}
	slices.SortFunc(m.Subs, subOrder)
	return m
}

// anyShown lets a cell show anything that it may.
func anyShown(r *rand.Rand, m impl.Mill, c *impl.Cell) {
	if c.Body != "" {
		for i, in := range c.Ins {
			for time := range r.Intn(8) {
				if r.Intn(2) == 0 {
					c.Wins[i], _ = impl.WindowPut(c.Wins[i], impl.Item{Val: r.Intn(100), Stamp: stampAt(m, in, time)})
				}
			}
		}
		if stamp := stampAt(m, c.Name, r.Intn(8)); r.Intn(2) == 0 && impl.StampOk(stamp) {
			c.Has, c.Out = true, impl.Item{Val: r.Intn(100), Stamp: stamp}
		}
		return
	}
	c.Ver = r.Intn(c.Lent + 1)
	if c.Ver == 0 || r.Intn(3) == 0 {
		return
	}
	c.Has, c.Out = true, impl.Item{Val: r.Intn(100), Stamp: []impl.Mark{{Src: c.Name, Ver: 1 + r.Intn(c.Ver)}}}
	if c.Set && r.Intn(2) == 0 {
		c.Said, c.Out.Val, c.Out.Stamp[0].Ver = true, c.Val, c.Ver
	}
}
